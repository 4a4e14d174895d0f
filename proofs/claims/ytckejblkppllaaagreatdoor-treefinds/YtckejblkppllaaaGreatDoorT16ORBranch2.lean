/-
  A branch made, a leaf and a branch read by the reference. Conditions: lengths within reach.
-/
import Derived.Test.YtckejblkppllaaaGreatDoorT14ORBranch
namespace Go.Proofs.YtckejblkppllaaaGreatDoor
open Go.RowKit
set_option maxRecDepth 20000 in
set_option maxHeartbeats 3200000 in
theorem Ov (w : World) (b : Bs) (hb : b.length≤140737488351232) :
  Calls Tryz.prog 101 #[.string (Ab b)] w fun e w'=>F7 w.heap.size b e w'∧Below w.heap.size w w':=by
 obtain ⟨i0,hi,hz0,hz1,hz2⟩:=info_parts Tryz.zPair
 have htk:=rtakenLeaf b (by omega)
 obtain ⟨s0,hs0⟩ : ∃ s,D7 76 b=s:=⟨_,rfl⟩
 obtain ⟨c,s2,ht2⟩ : ∃ t s2,rC b 64 s0=(t,s2):=⟨_,_,rfl⟩
 have hrc:=rC_le b 64 s0 (by omega)
 rw [ht2] at hrc
 obtain ⟨n,rfl⟩:=Int.eq_ofNat_of_zero_le hrc.1
 have hn : n≤64:=by have:=hrc.2; simp only at this; omega
 have hF : hLeaf b s0=((rN (Ch b 64 128) n s2).1,(rN (Ch b 64 128) n s2).2):=by
  unfold hLeaf rL
  simp only [ht2,Int.toNat_natCast]
 unfold Gs at htk
 rw [hs0,hF] at htk
 simp only at htk
 have HTK:=Ac htk
 have H0:=Ac hs0
 have H2:=Ac ht2
 clear htk hs0 ht2 hF hrc
 have HV:=Ac hb
 clear hb
 have hB:=L4 w b 76 HV.out
 rw [H0.out,show ((76 : UInt8).toNat : Int)=76 from rfl] at hB
 go_enter Tryz.func101,Tryz.ntmps101
 go_wp2_with fail
 refine hB.mono ?_
 rintro e w3 ⟨g,rfl,R3,hg1,B3⟩
 have hglt:=R3.lt
 have hFlo:=B3.size
 have hT:=N0 w3 g b s0 64 R3 HV.out
 rw [H2.out] at hT
 simp only at hT
 clear hB
 go_wp2_with fail
 refine hT.mono ?_
 rintro e w4 ⟨rfl,R4,gb4⟩
 have B4:=B3.grown gb4 B3.size (fun k hk=>by injection hk with hk; omega)
 have n4:=gb4.size
 clear hT gb4 R3 B3
 generalize hF : w3.heap.size=F at *
 clear hF
 go_wp2_with fail
 go_loopw [5,7] (fun s t wr=>∃ (k : Nat) (a : Option Addr) (cp : Nat),k≤n∧s = .slice a k cp∧t = .int .i64 k∧wr.ownsRow F 135 2 (.slice a k cp) k ((rN (Ch b 64 128) k s2).1.flatMap Ak)∧Rr w.heap.size wr g b (rN (Ch b 64 128) k s2).2∧Below w.heap.size w wr∧F≤wr.heap.size)
  (fun _ t _=>n - (intOf t).toNat)
 case atStart=>exact ⟨0,none,0,by omega,rfl,rfl,World.ownsRow_nil _ _ _ _,R4,B4,by omega⟩
 case round=>
  obtain ⟨k,a,cp,hk,rfl,rfl,own,Rk,Br,sr⟩:=hrel
  clear R4 B4
  obtain ⟨S,hS⟩ : ∃ S,(rN (Ch b 64 128) k s2).2=S:=⟨_,rfl⟩
  rw [hS] at Rk
  have hbad:=Rk.bad
  by_cases hgo : k<n∧S≠none
  ·obtain ⟨hlt,hne⟩:=hgo
   obtain ⟨p,rfl⟩:=Option.ne_none_iff_exists'.1 hne
   simp only [Option.isNone_some] at hbad
   obtain ⟨key,t1,hd⟩ : ∃ t s',rT b 64 (some p)=(t,s'):=⟨_,_,rfl⟩
   obtain ⟨val,t2,hz⟩ : ∃ t s',rT b 128 t1=(t,s'):=⟨_,_,rfl⟩
   have hsn:=Hm (Ch b 64 128) k s2
   rw [hS,show Ch b 64 128 (some p)=((key,val),t2) from by unfold Ch; simp only [rP,hd,hz]] at hsn
   simp only at hsn
   have HSN:=Ac hsn
   have hT:=Kl wr g b (some p) 64 Rk HV.out
   rw [hd] at hT
   simp only at hT
   have HZ:=Ac hz
   obtain ⟨csg,hcsg⟩:=Rk.heap
   have HO:=Ac own
   clear hsn hd hz hS own hne
   go_wp2_with fail
   refine hT.mono ?_
   rintro e w5 ⟨rfl,R5,gb5⟩
   have B5:=Br.grown gb5 Br.size (fun q hq=>by injection hq with hq; omega)
   have O5:=Ac (HO.out.kept gb5 (.inr (Ds HO.out hcsg (by decide))))
   have n5:=gb5.size
   obtain ⟨csg5,hcsg5⟩:=R5.heap
   have hT2:=Kl w5 g b t1 128 R5 HV.out
   rw [HZ.out] at hT2
   simp only at hT2
   clear hT gb5 R5 Rk Br HO hcsg hbad
   go_wp2_with fail
   refine hT2.mono ?_
   rintro e w6 ⟨rfl,R6,gb6⟩
   have B6:=B5.grown gb6 B5.size (fun q hq=>by injection hq with hq; omega)
   have own6:=O5.out.kept gb6 (.inr (Ds O5.out hcsg5 (by decide)))
   have n6:=gb6.size
   have hb7 : Below w6.heap.size w6 (w6.alloc (.cells #[.string (Ab key), .string (Ab val)] 135)):=(Below.refl _ _).alloc (Nat.le_refl _) _
   have own7:=own6.alloc (.cells #[.string (Ab key), .string (Ab val)] 135)
   have R7:=R6.keep hb7
   have B7:=B6.trans (hb7.mono B6.size)
   have hnw:=Hx w6 [.string (Ab key), .string (Ab val)] 135
   have O7:=Ac own7
   have HR7:=Ac R7
   have HB7:=Ac B7
   clear hT2 gb6 R6 B5 O5 hcsg5 B6 own6 own7 R7 B7 hb7
   go_wp2_with (at_builtin; refine wpList_append_own _ rfl (.tmp 32) (.tmp 36) 126 rfl F 135 i0 (.agg #[.string ⟨#[]⟩, .string ⟨#[]⟩]) 2 32 Tryz.underlying126 hi hz0 hz1 hz2 rfl (by decide) _ _ _ rfl O7.out ⟨w6.heap.size,0,none⟩ 1 1 [.string (Ab key), .string (Ab val)] rfl rfl hnw (by simp [Value.oneCell']) (by unfold maxLen; omega) (by omega) (by simp; omega) ?_; intro v8 w8 hown8 hgr8 _; have HO8:=Ac hown8; obtain ⟨a8,c8,rfl,-⟩:=Bj hown8; clear hown8)
   have R8:=HR7.out.grown hgr8 (fun q hq=>by have:=(O7.out.lt q hq).1; omega)
   have B8:=HB7.out.grown hgr8 HB7.out.size (fun q hq=>by have:=(O7.out.lt q hq).1; omega)
   have n8:=hgr8.size
   have n7 : (w6.alloc (.cells #[.string (Ab key), .string (Ab val)] 135)).heap.size=w6.heap.size+1:=by simp
   clear hnw
   go_wp2
   go_roundw
   case rel=>
    refine ⟨k+1,a8,c8,by omega,rfl,by go_num,?_,?_,B8,by omega⟩
    ·rw [HSN.out,Iv]
     exact HO8.out
    ·rw [HSN.out]
     exact R8
   case measure=>simp [intOf]; omega
  ·have hdone : k=n∨S=none:=by
    by_cases h : k<n
    ·exact .inr (Classical.not_not.1 (fun h2=>hgo ⟨h,h2⟩))
    ·exact .inl (by omega)
   obtain ⟨f,hf⟩ : ∃ f,(rN (Ch b 64 128) k s2).1=f:=⟨_,rfl⟩
   rw [hf] at own
   have hlf : f.length=k:=by rw [← hf,Hp]
   have hdead : S=none→(rN (Ch b 64 128) n s2).2=none:=fun h=>by
    have:=rN_dead (one:=Ch b 64 128) rfl s2 k (hS.trans h) (n - k)
    rwa [show k+(n - k)=n from by omega] at this
   have htrue : decide (S=some b.length)=true→A5 ltB f=true→Eu b=some f:=fun h1 h2=>by
    have h1:=of_decide_eq_true h1
    rcases hdone with rfl | h
    ·rw [← HTK.out,hS,hf,if_pos ⟨h1,h2⟩]
    ·rw [h] at h1; cases h1
   have hfalse : (decide (S=some b.length)=false∨A5 ltB f=false)→Eu b=none:=fun h=>by
    rw [← HTK.out]
    rcases hdone with rfl | h3
    ·rw [hS,hf]
     refine if_neg (fun g=>?_)
     rcases h with h | h
     ·exact of_decide_eq_false h g.1
     ·rw [h] at g; cases g.2
    ·rw [hdead h3]
     exact if_neg (fun g=>by cases g.1)
   have HTR:=Ac htrue
   have HFA:=Ac hfalse
   have hE:=J1 wr g b S Rk
   obtain ⟨q1,hq1⟩ : ∃ q,decide (S=some b.length)=q:=⟨_,rfl⟩
   rw [hq1] at hE HTR HFA
   have HO:=Ac own
   have HLF:=Ac hlf
   have hRt : ∀ W : World,W.ownsRow F 135 2 (.slice a k cp) k (f.flatMap Ak)→Calls Tryz.prog 66 #[.slice a k cp] W fun e w'=>e = .returned (.bool (A5 ltB f))∧Below W.heap.size W w':=fun W hW=>
    Oa W f (.slice a k cp) (Bi Dr (by rw [hlf]; exact hW))
   obtain ⟨q2,hq2⟩ : ∃ q,A5 ltB f=q:=⟨_,rfl⟩
   rw [hq2] at hRt HTR HFA
   have HRT:=Ac hRt
   clear htrue hfalse own hdead hRt hq1 hq2 hlf hf hS
   have hcase : k=n∨(k<n∧S=none):=by
    rcases hdone with h | h
    ·exact .inl h
    ·by_cases h2 : k<n
     ·exact .inr ⟨h2,h⟩
     ·exact .inl (by omega)
   clear hdone hgo
   rcases hcase with rfl | ⟨hlt,rfl⟩
   all_goals
    try have hnl : ¬ ((k : Int)<(k : Int)):=by omega
    try simp only [Option.isNone_none] at hbad
    go_wp2_with fail
    refine hE.mono ?_
    rintro e w5 ⟨rfl,hb5⟩
    have B5:=Br.trans (hb5.mono Br.size)
    have O5:=Ac (A0 HO.out hb5)
    clear hE hb5 Br HO hbad Rk
    go_wp2_with fail
    refine (HRT.out _ O5.out).mono ?_
    rintro e w6 ⟨rfl,hb6⟩
    have B6:=B5.trans (hb6.mono B5.size)
    have O6:=Ac (A0 O5.out hb6)
    clear hb6 B5 O5 HRT
    cases q1 with
    | false=>
     have ht:=HFA.out (.inl rfl)
     cases q2
     all_goals
      go_wp2
      go_ret2
      refine ⟨?_,B6⟩
      unfold F7
      rw [ht]
      rfl
    | true=>
     cases q2 with
     | false=>
      have ht:=HFA.out (.inr rfl)
      go_wp2
      go_ret2
      refine ⟨?_,B6⟩
      unfold F7
      rw [ht]
      rfl
     | true=>
      have ht:=HTR.out rfl rfl
      go_wp2
      go_ret2
      refine ⟨?_,B6⟩
      unfold F7
      rw [ht]
      refine ⟨_,rfl,Dh (B:=F) ?_ (by omega)⟩
      rw [HLF.out]
      exact O6.out
set_option maxRecDepth 20000 in
set_option maxHeartbeats 3200000 in
theorem Oz (w : World) (b : Bs) (hb : b.length≤140737488351232) :
  Calls Tryz.prog 102 #[.string (Ab b)] w fun e w'=>E9 w.heap.size b e w'∧Below w.heap.size w w':=by
 obtain ⟨i0,hi,hz0,hz1,hz2⟩:=info_parts Tryz.zLink
 have htk:=rtakenBranch b (by omega)
 obtain ⟨s0,hs0⟩ : ∃ s,D7 66 b=s:=⟨_,rfl⟩
 obtain ⟨lev,s1,ht1⟩ : ∃ t s1,rI b s0=(t,s1):=⟨_,_,rfl⟩
 obtain ⟨c,s2,ht2⟩ : ∃ t s2,rC b 64 s1=(t,s2):=⟨_,_,rfl⟩
 have hrc:=rC_le b 64 s1 (by omega)
 rw [ht2] at hrc
 obtain ⟨n,rfl⟩:=Int.eq_ofNat_of_zero_le hrc.1
 have hn : n≤64:=by have:=hrc.2; simp only at this; omega
 have hF : hBranch b s0=((lev,(rN (Bz b 64) n s2).1),(rN (Bz b 64) n s2).2):=by
  unfold hBranch rL
  simp only [rP,ht1,ht2,Int.toNat_natCast]
 unfold Gs at htk
 rw [hs0,hF] at htk
 simp only at htk
 have HTK:=Ac htk
 have H0:=Ac hs0
 have H1:=Ac ht1
 have H2:=Ac ht2
 clear htk hs0 ht1 ht2 hF hrc
 have HV:=Ac hb
 clear hb
 have hb0 : Below w.heap.size w (w.alloc (.cells #[.int .i64 0, .slice none 0 0] 129)):=(Below.refl _ _).alloc (Nat.le_refl _) _
 have x0:=heap_last w (.cells #[.int .i64 0, .slice none 0 0] 129) _ rfl
 have hn0 : (w.alloc (.cells #[.int .i64 0, .slice none 0 0] 129)).heap.size=w.heap.size+1:=by simp
 generalize hw0 : w.alloc (.cells #[.int .i64 0, .slice none 0 0] 129)=w0 at *
 have hB:=L4 w0 b 66 HV.out
 rw [H0.out,show ((66 : UInt8).toNat : Int)=66 from rfl] at hB
 go_enter Tryz.func102,Tryz.ntmps102
 go_wp2_with fail
 try rw [hw0]
 refine hB.mono ?_
 rintro e w1 ⟨g,rfl,R1,hg1,hb1⟩
 have x1:=(hb1.block _ (Ad x0)).trans x0
 have B1:=hb0.trans (hb1.mono hb0.size)
 have hT:=Ho w1 g b s0 R1 HV.out
 rw [H1.out] at hT
 simp only at hT
 clear hB hb1 R1 x0 hb0 hw0
 go_wp2_with fail
 refine hT.mono ?_
 rintro e w2 ⟨rfl,R2,gb2⟩
 have x2:=(gb2.block _ (Ad x1) (fun e=>by injection e with e; omega)).trans x1
 have B2:=B1.grown gb2 B1.size (fun k hk=>by injection hk with hk; omega)
 have hb3 : Below w2.heap.size w2 (w2.alloc (.cells #[.int .i64 lev, .slice none 0 0] 129)):=(Below.refl _ _).alloc (Nat.le_refl _) _
 have z3:=heap_last w2 (.cells #[.int .i64 lev, .slice none 0 0] 129) _ rfl
 have R3:=R2.keep hb3
 have x3:=(hb3.block _ (Ad x2)).trans x2
 have B3:=B2.trans (hb3.mono B2.size)
 have g2:=R2.lt
 have y2:=Ad x2
 have n3 : (w2.alloc (.cells #[.int .i64 lev, .slice none 0 0] 129)).heap.size=w2.heap.size+1:=by simp
 clear hT gb2 R2 x1 B1 x2 B2 hb3
 go_wp2_with fail
 generalize hw3 : w2.alloc (.cells #[.int .i64 lev, .slice none 0 0] 129)=w3 at *
 generalize hF : w2.heap.size=F at *
 have hT:=N0 w3 g b s1 64 R3 HV.out
 rw [H2.out] at hT
 simp only at hT
 refine hT.mono ?_
 rintro e w4 ⟨rfl,R4,gb4⟩
 have z4:=(gb4.block _ (Ad z3) (fun e=>by injection e with e; omega)).trans z3
 have x4:=(gb4.block _ (Ad x3) (fun e=>by injection e with e; omega)).trans x3
 have B4:=B3.grown gb4 B3.size (fun k hk=>by injection hk with hk; omega)
 have n4:=gb4.size
 clear hT gb4 R3 x3 B3 z3 hw3 hF
 go_wp2_with fail
 go_loopw [7] (fun t wr=>∃ (k : Nat) (a : Option Addr) (cp : Nat),k≤n∧t = .int .i64 k∧wr.heap[F]? = some (.cells #[.int .i64 lev, .slice a k cp] 129)∧wr.ownsRow (F+1) 125 3 (.slice a k cp) k ((rN (Bz b 64) k s2).1.flatMap Au)∧Rr w0.heap.size wr g b (rN (Bz b 64) k s2).2∧wr.heap[w.heap.size]? = some (.cells #[.int .i64 0, .slice none 0 0] 129)∧Below w.heap.size w wr∧F+1≤wr.heap.size)
  (fun t _=>n - (intOf t).toNat)
 case atStart=>exact ⟨0,none,0,by omega,rfl,z4,World.ownsRow_nil _ _ _ _,R4,x4,B4,by omega⟩
 case round=>
  obtain ⟨k,a,cp,hk,rfl,zr,own,Rk,xr,Br,sr⟩:=hrel
  clear z4 R4 x4 B4
  obtain ⟨S,hS⟩ : ∃ S,(rN (Bz b 64) k s2).2=S:=⟨_,rfl⟩
  rw [hS] at Rk
  have hbad:=Rk.bad
  by_cases hgo : k<n∧S≠none
  ·obtain ⟨hlt,hne⟩:=hgo
   obtain ⟨p,rfl⟩:=Option.ne_none_iff_exists'.1 hne
   simp only [Option.isNone_some] at hbad
   obtain ⟨key,t0,hkt⟩ : ∃ t s',rT b 64 (some p)=(t,s'):=⟨_,_,rfl⟩
   obtain ⟨id,t1,hd⟩ : ∃ t s',rD b t0=(t,s'):=⟨_,_,rfl⟩
   obtain ⟨size,t2,hz⟩ : ∃ t s',rI b t1=(t,s'):=⟨_,_,rfl⟩
   have hsn:=Hm (Bz b 64) k s2
   rw [hS,show Bz b 64 (some p)=((key,(id,size)),t2) from by unfold Bz E8; simp only [rP,hkt,hd,hz]] at hsn
   simp only at hsn
   have HSN:=Ac hsn
   have hT0:=Kl wr g b (some p) 64 Rk HV.out
   rw [hkt] at hT0
   simp only at hT0
   have HZ:=Ac hz
   have HD:=Ac hd
   obtain ⟨csg,hcsg⟩:=Rk.heap
   have HO:=Ac own
   clear hsn hd hz hS own hne hkt
   go_wp2_with fail
   refine hT0.mono ?_
   rintro e w4' ⟨rfl,R4',gb4'⟩
   have z4':=(gb4'.block _ (Ad zr) (fun e=>by injection e with e; omega)).trans zr
   have x4':=(gb4'.block _ (Ad xr) (fun e=>by injection e with e; omega)).trans xr
   have B4':=Br.grown gb4' Br.size (fun q hq=>by injection hq with hq; omega)
   have O4':=Ac (HO.out.kept gb4' (.inr (Ds HO.out hcsg (by decide))))
   have n4':=gb4'.size
   obtain ⟨csg4,hcsg4⟩:=R4'.heap
   have hT:=rid_any w4' g b t0 R4' HV.out
   rw [HD.out] at hT
   simp only at hT
   clear hT0 gb4' R4' Rk zr xr Br HO hcsg hbad
   go_wp2_with fail
   refine hT.mono ?_
   rintro e w5 ⟨rfl,R5,gb5⟩
   have z5:=(gb5.block _ (Ad z4') (fun e=>by injection e with e; omega)).trans z4'
   have x5:=(gb5.block _ (Ad x4') (fun e=>by injection e with e; omega)).trans x4'
   have B5:=B4'.grown gb5 B4'.size (fun q hq=>by injection hq with hq; omega)
   have O5:=Ac (O4'.out.kept gb5 (.inr (Ds O4'.out hcsg4 (by decide))))
   have n5:=gb5.size
   obtain ⟨csg5,hcsg5⟩:=R5.heap
   have hT2:=Ho w5 g b t1 R5 HV.out
   rw [HZ.out] at hT2
   simp only at hT2
   clear hT gb5 R5 z4' x4' B4' O4' hcsg4
   go_wp2_with fail
   refine hT2.mono ?_
   rintro e w6 ⟨rfl,R6,gb6⟩
   have z6:=(gb6.block _ (Ad z5) (fun e=>by injection e with e; omega)).trans z5
   have x6:=(gb6.block _ (Ad x5) (fun e=>by injection e with e; omega)).trans x5
   have B6:=B5.grown gb6 B5.size (fun q hq=>by injection hq with hq; omega)
   have own6:=O5.out.kept gb6 (.inr (Ds O5.out hcsg5 (by decide)))
   have n6:=gb6.size
   have d6:=rc (i:=1) z6 rfl
   have hb7 : Below w6.heap.size w6 (w6.alloc (.cells #[.string (Ab key), .string (Ab id), .int .i64 size] 125)):=(Below.refl _ _).alloc (Nat.le_refl _) _
   have own7:=own6.alloc (.cells #[.string (Ab key), .string (Ab id), .int .i64 size] 125)
   have z7:=(hb7.block _ (Ad z6)).trans z6
   have x7:=(hb7.block _ (Ad x6)).trans x6
   have R7:=R6.keep hb7
   have B7:=B6.trans (hb7.mono B6.size)
   have hnw:=Hx w6 [.string (Ab key), .string (Ab id), .int .i64 size] 125
   have hcf : ∀ w1 : World,(w6.alloc (.cells #[.string (Ab key), .string (Ab id), .int .i64 size] 125)).grownBy w1 (Value.slice a k cp).ownBlock→w1.cell? ⟨F,1,none⟩=some (.slice a k cp)∧w1.frozen? ⟨F,1,none⟩=false:=fun w1 hg=>by
    have hh:=(hg.block F (Ad z7) (fun e=>Ds own7 z7 (by decide) e.symm)).trans z7
    exact ⟨rc (i:=1) hh rfl,Af hh⟩
   have O7:=Ac own7
   have Z7:=Ac z7
   have X7:=Ac x7
   have HR7:=Ac R7
   have HB7:=Ac B7
   clear hT2 gb6 R6 z5 x5 B5 O5 hcsg5 z6 x6 B6 own6 own7 z7 x7 R7 B7 hb7
   go_wp2_with (at_builtin; refine wpList_append_own _ rfl (.tmp 39) (.tmp 44) 127 rfl (F+1) 125 i0 (.agg #[.string ⟨#[]⟩, .string ⟨#[]⟩, .int .i64 0]) 3 40 Tryz.underlying127 hi hz0 hz1 hz2 rfl (by decide) _ _ _ rfl O7.out ⟨w6.heap.size,0,none⟩ 1 1 [.string (Ab key), .string (Ab id), .int .i64 size] rfl rfl hnw (by simp [Value.oneCell']) (by unfold maxLen; omega) (by omega) (by simp; omega) ?_; intro v8 w8 hown8 hgr8 _; have HO8:=Ac hown8; obtain ⟨a8,c8,rfl,-⟩:=Bj hown8; clear hown8; obtain ⟨e8,f8⟩:=hcf w8 hgr8)
   have z8:=(hgr8.block F (Ad Z7.out) (fun e=>Ds O7.out Z7.out (by decide) e.symm)).trans Z7.out
   have x8:=(hgr8.block _ (Ad X7.out) (fun e=>Ds O7.out X7.out (by decide) e.symm)).trans X7.out
   have R8:=HR7.out.grown hgr8 (fun q hq=>by have:=(O7.out.lt q hq).1; omega)
   have B8:=HB7.out.grown hgr8 HB7.out.size (fun q hq=>by have:=(O7.out.lt q hq).1; omega)
   have n8:=hgr8.size
   have n7 : (w6.alloc (.cells #[.string (Ab key), .string (Ab id), .int .i64 size] 125)).heap.size=w6.heap.size+1:=by simp
   clear hcf hnw d6
   go_wp2
   go_roundw
   case rel=>
    refine ⟨k+1,a8,c8,by omega,by go_num,heap_set1 z8,?_,?_,?_,?_,?_⟩
    ·rw [HSN.out,Iv]
     exact HO8.out.kept (Ar w8 F 1 _) (.inr (Ds HO8.out z8 (by decide)))
    ·rw [HSN.out]
     exact R8.set (.inl (by omega))
    ·exact ((Ar w8 F 1 _).block _ (Ad x8) (fun e=>by injection e with e; omega)).trans x8
    ·exact B8.setCell (p:=⟨F,1,none⟩) (by simp; omega) _
    ·have:=(Ar w8 F 1 (.slice a8 (k+1) c8)).size
     omega
   case measure=>simp [intOf]; omega
  ·have hdone : k=n∨S=none:=by
    by_cases h : k<n
    ·exact .inr (Classical.not_not.1 (fun h2=>hgo ⟨h,h2⟩))
    ·exact .inl (by omega)
   obtain ⟨f,hf⟩ : ∃ f,(rN (Bz b 64) k s2).1=f:=⟨_,rfl⟩
   rw [hf] at own
   have hlf : f.length=k:=by rw [← hf,Hp]
   have hdead : S=none→(rN (Bz b 64) n s2).2=none:=fun h=>by
    have:=rN_dead (one:=Bz b 64) rfl s2 k (hS.trans h) (n - k)
    rwa [show k+(n - k)=n from by omega] at this
   have htrue : decide (S=some b.length)=true→A4 ltB (lev,f)=true→E4 b=some (lev,f):=fun h1 h2=>by
    have h1:=of_decide_eq_true h1
    rcases hdone with rfl | h
    ·rw [← HTK.out,hS,hf,if_pos ⟨h1,h2⟩]
    ·rw [h] at h1; cases h1
   have hfalse : (decide (S=some b.length)=false∨A4 ltB (lev,f)=false)→E4 b=none:=fun h=>by
    rw [← HTK.out]
    rcases hdone with rfl | h3
    ·rw [hS,hf]
     refine if_neg (fun g=>?_)
     rcases h with h | h
     ·exact of_decide_eq_false h g.1
     ·rw [h] at g; cases g.2
    ·rw [hdead h3]
     exact if_neg (fun g=>by cases g.1)
   have HTR:=Ac htrue
   have HFA:=Ac hfalse
   have hE:=J1 wr g b S Rk
   obtain ⟨q1,hq1⟩ : ∃ q,decide (S=some b.length)=q:=⟨_,rfl⟩
   rw [hq1] at hE HTR HFA
   have HO:=Ac own
   have HLF:=Ac hlf
   have hRt : ∀ W : World,W.ownsRow (F+1) 125 3 (.slice a k cp) k (f.flatMap Au)→Calls Tryz.prog 149 #[.agg #[.int .i64 lev, .slice a k cp]] W fun e w'=>e = .returned (.bool (A4 ltB (lev,f)))∧Below W.heap.size W w':=fun W hW=>
    O0 W (lev,f) (.slice a k cp) (Bi Ev (by rw [hlf]; exact hW))
   obtain ⟨q2,hq2⟩ : ∃ q,A4 ltB (lev,f)=q:=⟨_,rfl⟩
   rw [hq2] at hRt HTR HFA
   have HRT:=Ac hRt
   clear htrue hfalse own hdead hRt hq1 hq2 hlf hf hS
   have hcase : k=n∨(k<n∧S=none):=by
    rcases hdone with h | h
    ·exact .inl h
    ·by_cases h2 : k<n
     ·exact .inr ⟨h2,h⟩
     ·exact .inl (by omega)
   clear hdone hgo
   rcases hcase with rfl | ⟨hlt,rfl⟩
   ·have hnl : ¬ ((k : Int)<(k : Int)):=by omega
    go_wp2_with fail
    refine hE.mono ?_
    rintro e w5 ⟨rfl,hb5⟩
    have z5:=(hb5.block _ (Ad zr)).trans zr
    have x5:=(hb5.block _ (Ad xr)).trans xr
    have B5:=Br.trans (hb5.mono Br.size)
    have O5:=Ac (A0 HO.out hb5)
    have c0:=rc (i:=0) z5 rfl
    have c1:=rc (i:=1) z5 rfl
    clear hE hb5 zr xr Br HO hbad Rk
    go_wp2_with fail
    refine (HRT.out _ O5.out).mono ?_
    rintro e w6 ⟨rfl,hb6⟩
    have z6:=(hb6.block _ (Ad z5)).trans z5
    have x6:=(hb6.block _ (Ad x5)).trans x5
    have B6:=B5.trans (hb6.mono B5.size)
    have O6:=Ac (A0 O5.out hb6)
    have m0:=rc (i:=0) z6 rfl
    have m1:=rc (i:=1) z6 rfl
    have n0:=rc (i:=0) x6 rfl
    have n1:=rc (i:=1) x6 rfl
    have f0:=Af (j:=0) x6
    have f1:=Af (j:=1) x6
    clear hb6 z5 x5 B5 O5 c0 c1 z6 HRT
    cases q1 with
    | false=>
     have ht:=HFA.out (.inl rfl)
     cases q2
     all_goals
      go_wp2
      refine bodyPost_ret (Aq rfl _ _ _ _ _ _ _ rfl (Cm x6) Tryz.underlying129 rfl Tryz.infoBranch) rfl ⟨?_,(B6.setCell (p:=⟨w.heap.size,0,none⟩) (by simp) _).setCell (p:=⟨w.heap.size,1,none⟩) (by simp) _⟩
      unfold E9
      rw [ht]
      rfl
    | true=>
     cases q2 with
     | false=>
      have ht:=HFA.out (.inr rfl)
      go_wp2
      refine bodyPost_ret (Aq rfl _ _ _ _ _ _ _ rfl (Cm x6) Tryz.underlying129 rfl Tryz.infoBranch) rfl ⟨?_,(B6.setCell (p:=⟨w.heap.size,0,none⟩) (by simp) _).setCell (p:=⟨w.heap.size,1,none⟩) (by simp) _⟩
      unfold E9
      rw [ht]
      rfl
     | true=>
      have ht:=HTR.out rfl rfl
      go_wp2
      refine bodyPost_ret (Aq rfl _ _ _ _ _ _ _ rfl (Cm x6) Tryz.underlying129 rfl Tryz.infoBranch) rfl ⟨?_,(B6.setCell (p:=⟨w.heap.size,0,none⟩) (by simp) _).setCell (p:=⟨w.heap.size,1,none⟩) (by simp) _⟩
      unfold E9
      rw [ht]
      refine ⟨_,rfl,Dh (B:=F+1) ?_ (by omega)⟩
      rw [show (lev,f).2.length=k from HLF.out]
      exact O6.out.kept (A7 (Ar w6 w.heap.size 0 _) (Ar _ w.heap.size 1 _)) (.inr (Ds O6.out x6 (by decide)))
   ·simp only [Option.isNone_none] at hbad
    go_wp2_with fail
    refine hE.mono ?_
    rintro e w5 ⟨rfl,hb5⟩
    have z5:=(hb5.block _ (Ad zr)).trans zr
    have x5:=(hb5.block _ (Ad xr)).trans xr
    have B5:=Br.trans (hb5.mono Br.size)
    have O5:=Ac (A0 HO.out hb5)
    have c0:=rc (i:=0) z5 rfl
    have c1:=rc (i:=1) z5 rfl
    clear hE hb5 zr xr Br HO hbad Rk
    go_wp2_with fail
    refine (HRT.out _ O5.out).mono ?_
    rintro e w6 ⟨rfl,hb6⟩
    have z6:=(hb6.block _ (Ad z5)).trans z5
    have x6:=(hb6.block _ (Ad x5)).trans x5
    have B6:=B5.trans (hb6.mono B5.size)
    have O6:=Ac (A0 O5.out hb6)
    have m0:=rc (i:=0) z6 rfl
    have m1:=rc (i:=1) z6 rfl
    have n0:=rc (i:=0) x6 rfl
    have n1:=rc (i:=1) x6 rfl
    have f0:=Af (j:=0) x6
    have f1:=Af (j:=1) x6
    clear hb6 z5 x5 B5 O5 c0 c1 z6 HRT
    cases q1 with
    | false=>
     have ht:=HFA.out (.inl rfl)
     cases q2
     all_goals
      go_wp2
      refine bodyPost_ret (Aq rfl _ _ _ _ _ _ _ rfl (Cm x6) Tryz.underlying129 rfl Tryz.infoBranch) rfl ⟨?_,(B6.setCell (p:=⟨w.heap.size,0,none⟩) (by simp) _).setCell (p:=⟨w.heap.size,1,none⟩) (by simp) _⟩
      unfold E9
      rw [ht]
      rfl
    | true=>
     cases q2 with
     | false=>
      have ht:=HFA.out (.inr rfl)
      go_wp2
      refine bodyPost_ret (Aq rfl _ _ _ _ _ _ _ rfl (Cm x6) Tryz.underlying129 rfl Tryz.infoBranch) rfl ⟨?_,(B6.setCell (p:=⟨w.heap.size,0,none⟩) (by simp) _).setCell (p:=⟨w.heap.size,1,none⟩) (by simp) _⟩
      unfold E9
      rw [ht]
      rfl
     | true=>
      have ht:=HTR.out rfl rfl
      go_wp2
      refine bodyPost_ret (Aq rfl _ _ _ _ _ _ _ rfl (Cm x6) Tryz.underlying129 rfl Tryz.infoBranch) rfl ⟨?_,(B6.setCell (p:=⟨w.heap.size,0,none⟩) (by simp) _).setCell (p:=⟨w.heap.size,1,none⟩) (by simp) _⟩
      unfold E9
      rw [ht]
      refine ⟨_,rfl,Dh (B:=F+1) ?_ (by omega)⟩
      rw [show (lev,f).2.length=k from HLF.out]
      exact O6.out.kept (A7 (Ar w6 w.heap.size 0 _) (Ar _ w.heap.size 1 _)) (.inr (Ds O6.out x6 (by decide)))
end Go.Proofs.YtckejblkppllaaaGreatDoor
