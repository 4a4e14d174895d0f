/-
  What the document's answer says of any bytes at any place (the reference's TakeInt): just what taking a number says. Conditions: a slice of bytes; a place that is an int.
-/
import Derived.Test.YtckejblkppllaaaGreatDoorT9OTop2
import Derived.Test.YtckejblkppllaaaGreatDoorT3HSpread
namespace Go.Proofs.YtckejblkppllaaaGreatDoor
open Go.RowKit
theorem G7 {w : World} {v : Value} {l : List UInt8} (h : Sl w v l) : ∀ W,Below w.heap.size w W→(convert 137 9 v).run Tryz.prog W = .ok (.string (Ab l)) W:=
 fun W hW=>run_str W v l (h.keep hW)
theorem and127 (c : Nat) (h : c<256) : bits .and .u8 (c : Int) 127=((c % 128 : Nat) : Int):=by
 have h2:=u8_and_nat c 127 h (by omega)
 have h3:=Nat.and_two_pow_sub_one_eq_mod c 7
 rw [show (127 : Int)=((127 : Nat) : Int) from rfl,h2]
 simp at h3
 rw [h3]
theorem or_val (X c i : Nat) (hX : X<18446744073709551616) : bits .or .u64 (X : Int) (IntKind.u64.wrap ((c : Int) * 2 ^ (7 * i)))=((X ||| (c * 2 ^ (7 * i)) % 18446744073709551616 : Nat) : Int):=by
 have e0 : ((c : Int) * 2 ^ (7 * i))=((c * 2 ^ (7 * i) : Nat) : Int):=by rw [Int.natCast_mul,Int.natCast_pow]; rfl
 have e1 : IntKind.u64.wrap ((c * 2 ^ (7 * i) : Nat) : Int)=(((c * 2 ^ (7 * i)) % 18446744073709551616 : Nat) : Int):=by
  generalize c * 2 ^ (7 * i)=t at *
  rw [IntKind.wrap_u64]; omega
 rw [e0,e1,u64_or_nat _ _ hX (Nat.mod_lt _ (by decide))]
set_option maxRecDepth 20000 in
set_option maxHeartbeats 400000 in
theorem refTake_out (w : World) (v : Value) (l : List UInt8) (p : Int) (h : Sl w v l) (hp : p<0∨(l.length : Int)<p) :
  Calls Tryz.prog 103 #[v, .int .i64 p] w fun e w'=>e = .returned (.tuple #[.int .i64 0, .int .i64 0, .bool false])∧Below w.heap.size w w':=by
 obtain ⟨ao,cap,rfl,h1,h2,h3,h4⟩:=h
 clear h4 h3
 unfold maxLen at h2
 go_enter Tryz.func103,Tryz.ntmps103
 go_wp2
 all_goals (first | (go_ret3; exact ⟨rfl,Below.refl _ _⟩) | (exfalso; omega))
def tkI : Option (Int × Nat)→Value
 | none=>.tuple #[.int .i64 0, .int .i64 0, .bool false]
 | some (n,q)=>.tuple #[.int .i64 n, .int .i64 (q : Int), .bool true]
set_option maxRecDepth 20000 in
set_option maxHeartbeats 2000000 in
theorem refTake_in (w : World) (v : Value) (l : List UInt8) (a : Nat) (h : Sl w v l) (hl : l.length≤140737488351232) (ha : a≤l.length) :
  Calls Tryz.prog 103 #[v, .int .i64 a] w fun e w'=>e = .returned (tkI (Cc l a))∧Below w.heap.size w w':=by
 have hsl:=h
 obtain ⟨ao,cap,rfl,h1,h2,h3,h4⟩:=h
 unfold maxLen at h2
 have hna : ¬ l.length<a:=by omega
 go_enter Tryz.func103,Tryz.ntmps103
 go_wp2
 go_loopw [7] (fun x wr=>∃ k : Nat,1≤k∧k≤11∧k≤l.length - a+1∧x = .int .i64 k∧(∀ j,1≤j→j<k→Pl.enc (Pl.val (l.drop a) j)≠(l.drop a).take j)∧Below w.heap.size w wr)
  (fun x _=>11 - (intOf x).toNat)
 case atStart=>exact ⟨1,by omega,by omega,by omega,rfl,fun j h1 h2=>by omega,Below.refl _ _⟩
 case round=>
  obtain ⟨k,hk1,hk2,hk3,rfl,hno,hbel⟩:=hrel
  have HNO:=Ac hno
  clear hno
  by_cases hc : k≤10∧k≤l.length - a
  ·obtain ⟨hc1,hc2⟩:=hc
   obtain ⟨b,off,rfl,hb,hcell⟩:=h4 (by rintro rfl; simp at hc2; omega)
   go_wp2
   go_loop [8,9] (fun x i=>∃ j : Nat,j≤k∧x = .int .u64 ((Pl.val (l.drop a) j : Nat) : Int)∧i = .int .i64 j) (fun _ i=>k - (intOf i).toNat)
   case atStart=>exact ⟨0,by omega,rfl,rfl⟩
   case round=>
    obtain ⟨j,hj,rfl,rfl⟩:=hrel
    by_cases hlt : j<k
    ·have hcj:=(hbel.cell (p:=⟨b,off+(a+j),none⟩) hb).trans (hcell (a+j) (by omega))
     have hg : (l.drop a).getD j 0=l[a+j]'(by omega):=by simp [List.getD,List.getElem?_drop,List.getElem?_eq_getElem (show a+j<l.length by omega)]
     have hv1 : Pl.val (l.drop a) (j+1)=Pl.val (l.drop a) j ||| ((l[a+j]'(by omega)).toNat % 128 * 2 ^ (7 * j)) % 18446744073709551616:=by
      conv=>lhs; unfold Pl.val
      rw [hg]
     have hXl:=Pl.val_lt (l.drop a) j
     have hc256:=UInt8.toNat_lt (l[a+j]'(by omega))
     generalize (l[a+j]'(by omega)).toNat=c at *
     generalize Pl.val (l.drop a) j=X at *
     have e1:=and127 c hc256
     have e2:=or_val X (c % 128) j hXl
     have HV:=Ac hv1
     have E2:=Ac e2
     have hm : c % 128<128:=Nat.mod_lt _ (by decide)
     generalize c % 128=d at *
     clear hv1 hg hXl hcell h4 e2
     go_wp2
     go_round
     case rel=>exact ⟨j+1,by omega,by rw [HV.out]; exact congrArg (Value.int .u64) E2.out,by go_num⟩
     case measure=>simp [intOf]; omega
    ·obtain rfl : j=k:=by omega
     have hul:=Pl.val_lt (l.drop a) j
     have hub:=Pl.unzz_bd _ hul
     have hnu : num (Pl.unzz (Pl.val (l.drop a) j))=Pl.enc (Pl.val (l.drop a) j):=by unfold num; rw [Pl.zz_unzz]
     have hodd : Pl.val (l.drop a) j % 2=1→-((Pl.val (l.drop a) j : Int) / 2) - 1=Pl.unzz (Pl.val (l.drop a) j):=by
      intro h; unfold Pl.unzz; rw [if_neg (by omega)]; omega
     have heven : Pl.val (l.drop a) j % 2=0→((Pl.val (l.drop a) j : Int) / 2)=Pl.unzz (Pl.val (l.drop a) j):=by
      intro h; unfold Pl.unzz; rw [if_pos h]; omega
     have hhit : Pl.enc (Pl.val (l.drop a) j)=(l.drop a).take j→Cc l a=some (Pl.unzz (Pl.val (l.drop a) j),a+j):=by
      intro h
      unfold Cc
      rw [if_neg (by omega),Int.toNat_natCast,Pl.hit_dec (by simp; omega) h]
      rfl
     have HH:=Ac hhit
     have HU:=Ac hnu
     generalize Pl.unzz (Pl.val (l.drop a) j)=N at *
     generalize hu : Pl.val (l.drop a) j=u at *
     have HV:=Ac hu
     clear hu hhit hnu h4 hcell
     have hn0:=hub.1
     have hn1:=hub.2
     have hslr : Sl wr (.slice (some ⟨b,off,none⟩) l.length cap) l:=hsl.keep hbel
     have hdr : Below wr.heap.size wr wr.drew:=(Below.refl _ _).drew
     obtain ⟨q,hq⟩ : ∃ q,q=a+j:=⟨_,rfl⟩
     have ew : IntKind.i64.wrap ((a : Int)+(j : Int))=(q : Int):=by rw [IntKind.wrap_i64]; omega
     have hcut : Sl wr (.slice (some ⟨b,off+a,none⟩) (q - a) (cap - a)) ((l.drop a).take j):=by
      have:=Sl.cutAt (r:=a) (m:=j) (by omega) (by omega) hslr
      rw [show q - a=j from by omega]
      simpa [Addr.add_lit] using this
     have C1:=Ac (G7 hcut)
     have e5 : q≤cap:=by omega
     have e7 : a≤q:=by omega
     have HQ:=Ac hq
     clear hcut hq
     have hu2 : (u : Int)≤18446744073709551615:=by omega
     clear hul hub
     have e6 : ¬ cap=a:=by have:=HQ.out; omega
     have hpar : (((u : Int) % 2 == 1)=true∧-((u : Int) / 2) - 1=N)∨(((u : Int) % 2 == 1)=false∧(u : Int) / 2=N):=by
      rcases (show u % 2=1∨u % 2=0 by omega) with h | h
      ·exact Or.inl ⟨by simp; omega,hodd h⟩
      ·exact Or.inr ⟨by simp; omega,heven h⟩
     clear hodd heven
     by_cases hh : Pl.enc u=(l.drop a).take j
     ·have f1 : ((Ab (num N)).toList == (Ab ((l.drop a).take j)).toList)=true:=by rw [HU.out,hh]; simp
      have HT:=Ac (HH.out hh)
      clear HH HU hh
      rcases hpar with ⟨t1,er⟩ | ⟨t1,er⟩
      all_goals
       go_wp2
       clear er t1
       refine wp_region_held_drew (S:=fun w'=>(convert 137 9 (.slice (some ⟨b,off+a,none⟩) (q - a) (cap - a))).run Tryz.prog w' = .ok (.string (Ab ((l.drop a).take j))) w') (by kernel_rfl) (C1.out _ hdr) (fun hHeld=>?_)
       refine Ax (i:=0) (v:=?_) rfl (by kernel_rfl) (by kernel_rfl) (by kernel_rfl) (fun _ _ _ h=>h) rfl ?_ hHeld ?_
       rotate_left
       ·intro w _; go_simp; first | done | (with_reducible rfl)
       try simp only [Act.put,List.setIfInBounds_toArray,List.set_cons_zero,List.set_cons_succ]
       refine Ax (i:=3) (v:=?_) rfl (by kernel_rfl) (by kernel_rfl) (by kernel_rfl) (fun _ _ _ h=>h) rfl ?_ hHeld ?_
       rotate_left
       ·intro w _; go_simp; first | done | (with_reducible rfl)
       try simp only [Act.put,List.setIfInBounds_toArray,List.set_cons_zero,List.set_cons_succ]
       refine Ax (i:=4) (v:=?_) rfl (by kernel_rfl) (by kernel_rfl) (by kernel_rfl) (fun _ _ _ h=>h) rfl ?_ hHeld ?_
       rotate_left
       ·intro w _; go_simp; first | done | (with_reducible rfl)
       try simp only [Act.put,List.setIfInBounds_toArray,List.set_cons_zero,List.set_cons_succ]
       refine Ax (i:=5) (v:=?_) rfl (by kernel_rfl) (by kernel_rfl) (by kernel_rfl) (fun _ _ _ h=>h) rfl ?_ hHeld ?_
       rotate_left
       ·intro w _; go_simp; first | done | (with_reducible rfl)
       try simp only [Act.put,List.setIfInBounds_toArray,List.set_cons_zero,List.set_cons_succ]
       refine Ax (i:=6) (v:=?_) rfl (by kernel_rfl) (by kernel_rfl) (by kernel_rfl) (fun _ _ _ h=>h) rfl ?_ hHeld ?_
       rotate_left
       ·intro w _; go_simp; first | done | (with_reducible rfl)
       try simp only [Act.put,List.setIfInBounds_toArray,List.set_cons_zero,List.set_cons_succ]
       refine Ax (i:=7) (v:=?_) rfl (by kernel_rfl) (by kernel_rfl) (by kernel_rfl) (fun _ _ _ h=>h) rfl ?_ hHeld ?_
       rotate_left
       ·intro w _; go_simp; first | done | (with_reducible rfl)
       try simp only [Act.put,List.setIfInBounds_toArray,List.set_cons_zero,List.set_cons_succ]
       refine Ax (i:=8) (v:=?_) rfl (by kernel_rfl) (by kernel_rfl) (by kernel_rfl) (fun _ _ _ h=>h) rfl ?_ hHeld ?_
       rotate_left
       ·intro w _; go_simp; first | done | (with_reducible rfl)
       try simp only [Act.put,List.setIfInBounds_toArray,List.set_cons_zero,List.set_cons_succ]
       refine Ax (i:=9) (v:=?_) rfl (by kernel_rfl) (by kernel_rfl) (by kernel_rfl) (fun _ _ _ h=>h) rfl ?_ hHeld ?_
       rotate_left
       ·intro w hS; (try dsimp only at hS); go_simp; first | done | (with_reducible rfl)
       try simp only [Act.put,List.setIfInBounds_toArray,List.set_cons_zero,List.set_cons_succ]
       refine Ai (i:=1) rfl (by kernel_rfl) rfl (fun K hK=>?_)
       go_simp
       refine (Id _ _ hn0 hn1).mono ?_
       rintro e w6 ⟨v6,rfl,hown6,hb6⟩
       have hb6':=hdr.trans (hb6.mono hdr.size)
       have c6:=G7 (Ge hown6) w6 (Below.refl _ _)
       go_wp2_with fail
       refine hK.out _ _ (C1.out w6 hb6') (fun hHeld=>?_)
       clear hK K
       refine Ai (i:=2) rfl (by kernel_rfl) rfl (fun K hK=>?_)
       go_simp
       refine hK.out _ _ (C1.out w6 hb6') (fun hHeld=>?_)
       clear hK K
       refine Ax (i:=10) (v:=?_) rfl (by kernel_rfl) (by kernel_rfl) (by kernel_rfl) (fun _ _ _ h=>h) rfl ?_ hHeld ?_
       rotate_left
       ·intro w _; go_simp; first | done | (with_reducible rfl)
       try simp only [Act.put,List.setIfInBounds_toArray,List.set_cons_zero,List.set_cons_succ]
       refine wpAnyH_done (by kernel_rfl) ?_ _
       go_wp2
       go_ret3
       rw [HT.out]
       exact ⟨congrArg Ending.returned (congrArg (fun z : Int=>Value.tuple #[.int .i64 N, .int .i64 z, .bool true]) (by have:=HQ.out; omega)),hbel.trans (hb6'.mono hbel.size)⟩
     ·have f1 : ((Ab (num N)).toList == (Ab ((l.drop a).take j)).toList)=false:=by
       rw [ByteArray.toList_eq,ByteArray.toList_eq,B0,B0,HU.out]
       simpa using hh
      have HM:=Ac hh
      clear HH HU hh
      rcases hpar with ⟨t1,er⟩ | ⟨t1,er⟩
      all_goals
       go_wp2
       clear er t1
       refine wp_region_held_drew (S:=fun w'=>(convert 137 9 (.slice (some ⟨b,off+a,none⟩) (q - a) (cap - a))).run Tryz.prog w' = .ok (.string (Ab ((l.drop a).take j))) w') (by kernel_rfl) (C1.out _ hdr) (fun hHeld=>?_)
       refine Ax (i:=0) (v:=?_) rfl (by kernel_rfl) (by kernel_rfl) (by kernel_rfl) (fun _ _ _ h=>h) rfl ?_ hHeld ?_
       rotate_left
       ·intro w _; go_simp; first | done | (with_reducible rfl)
       try simp only [Act.put,List.setIfInBounds_toArray,List.set_cons_zero,List.set_cons_succ]
       refine Ax (i:=3) (v:=?_) rfl (by kernel_rfl) (by kernel_rfl) (by kernel_rfl) (fun _ _ _ h=>h) rfl ?_ hHeld ?_
       rotate_left
       ·intro w _; go_simp; first | done | (with_reducible rfl)
       try simp only [Act.put,List.setIfInBounds_toArray,List.set_cons_zero,List.set_cons_succ]
       refine Ax (i:=4) (v:=?_) rfl (by kernel_rfl) (by kernel_rfl) (by kernel_rfl) (fun _ _ _ h=>h) rfl ?_ hHeld ?_
       rotate_left
       ·intro w _; go_simp; first | done | (with_reducible rfl)
       try simp only [Act.put,List.setIfInBounds_toArray,List.set_cons_zero,List.set_cons_succ]
       refine Ax (i:=5) (v:=?_) rfl (by kernel_rfl) (by kernel_rfl) (by kernel_rfl) (fun _ _ _ h=>h) rfl ?_ hHeld ?_
       rotate_left
       ·intro w _; go_simp; first | done | (with_reducible rfl)
       try simp only [Act.put,List.setIfInBounds_toArray,List.set_cons_zero,List.set_cons_succ]
       refine Ax (i:=6) (v:=?_) rfl (by kernel_rfl) (by kernel_rfl) (by kernel_rfl) (fun _ _ _ h=>h) rfl ?_ hHeld ?_
       rotate_left
       ·intro w _; go_simp; first | done | (with_reducible rfl)
       try simp only [Act.put,List.setIfInBounds_toArray,List.set_cons_zero,List.set_cons_succ]
       refine Ax (i:=7) (v:=?_) rfl (by kernel_rfl) (by kernel_rfl) (by kernel_rfl) (fun _ _ _ h=>h) rfl ?_ hHeld ?_
       rotate_left
       ·intro w _; go_simp; first | done | (with_reducible rfl)
       try simp only [Act.put,List.setIfInBounds_toArray,List.set_cons_zero,List.set_cons_succ]
       refine Ax (i:=8) (v:=?_) rfl (by kernel_rfl) (by kernel_rfl) (by kernel_rfl) (fun _ _ _ h=>h) rfl ?_ hHeld ?_
       rotate_left
       ·intro w _; go_simp; first | done | (with_reducible rfl)
       try simp only [Act.put,List.setIfInBounds_toArray,List.set_cons_zero,List.set_cons_succ]
       refine Ax (i:=9) (v:=?_) rfl (by kernel_rfl) (by kernel_rfl) (by kernel_rfl) (fun _ _ _ h=>h) rfl ?_ hHeld ?_
       rotate_left
       ·intro w hS; (try dsimp only at hS); go_simp; first | done | (with_reducible rfl)
       try simp only [Act.put,List.setIfInBounds_toArray,List.set_cons_zero,List.set_cons_succ]
       refine Ai (i:=1) rfl (by kernel_rfl) rfl (fun K hK=>?_)
       go_simp
       refine (Id _ _ hn0 hn1).mono ?_
       rintro e w6 ⟨v6,rfl,hown6,hb6⟩
       have hb6':=hdr.trans (hb6.mono hdr.size)
       have c6:=G7 (Ge hown6) w6 (Below.refl _ _)
       go_wp2_with fail
       refine hK.out _ _ (C1.out w6 hb6') (fun hHeld=>?_)
       clear hK K
       refine Ai (i:=2) rfl (by kernel_rfl) rfl (fun K hK=>?_)
       go_simp
       refine hK.out _ _ (C1.out w6 hb6') (fun hHeld=>?_)
       clear hK K
       refine Ax (i:=10) (v:=?_) rfl (by kernel_rfl) (by kernel_rfl) (by kernel_rfl) (fun _ _ _ h=>h) rfl ?_ hHeld ?_
       rotate_left
       ·intro w _; go_simp; first | done | (with_reducible rfl)
       try simp only [Act.put,List.setIfInBounds_toArray,List.set_cons_zero,List.set_cons_succ]
       refine wpAnyH_done (by kernel_rfl) ?_ _
       go_wp2
       go_roundw
       case rel=>
        have hno' : ∀ i,1≤i→i<j+1→Pl.enc (Pl.val (l.drop a) i)≠(l.drop a).take i:=by
         intro i hi1 hi2
         rcases Nat.lt_or_ge i j with h | h
         ·exact HNO.out i hi1 h
         ·obtain rfl : i=j:=by omega
          rw [HV.out]; exact HM.out
        exact ⟨j+1,by omega,by omega,by omega,by go_num,hno',hbel.trans (hb6'.mono hbel.size)⟩
       case measure=>simp [intOf]; omega
  ·have hnone : Cc l a=none:=by
    unfold Cc
    rw [if_neg (by omega),Int.toNat_natCast]
    cases hd : Pl.dec (l.drop a) 0 0 with
    | none=>rfl
    | some x=>
     obtain ⟨u,c⟩:=x
     obtain ⟨_,e2,e3,e4⟩:=Pl.dec_take hd
     have e5:=Pl.dec_hit hd
     have e6:=Pl.enc_length u
     rw [List.length_drop] at e2
     exact absurd e5.2 (HNO.out c (by omega) (by omega))
   have HN:=Ac hnone
   clear hnone HNO h4
   go_wp2
   all_goals (go_ret3; exact ⟨by rw [HN.out]; rfl,hbel⟩)
theorem Oh (w : World) (v : Value) (l : List UInt8) (p : Int) (h : Sl w v l) (hl : l.length≤140737488351232) :
  Calls Tryz.prog 103 #[v, .int .i64 p] w fun e w'=>e = .returned (tkI (Cc l p))∧Below w.heap.size w w':=by
 by_cases h0 : p<0∨(l.length : Int)<p
 ·have hn : Cc l p=none:=by
   unfold Cc
   by_cases hp : p<0
   ·rw [if_pos hp]
   ·rw [if_neg hp,List.drop_eq_nil_of_le (by omega)]; rfl
  rw [hn]
  exact refTake_out w v l p h h0
 ·obtain ⟨a,rfl⟩:=Int.eq_ofNat_of_zero_le (show 0≤p by omega)
  exact refTake_in w v l a h hl (by omega)
def tkT : Option (List UInt8 × Nat)→Value
 | none=>.tuple #[.string ⟨#[]⟩, .int .i64 0, .bool false]
 | some (t,q)=>.tuple #[.string (Ab t), .int .i64 (q : Int), .bool true]
set_option maxRecDepth 20000 in
set_option maxHeartbeats 400000 in
theorem refText_take (w : World) (v : Value) (l : List UInt8) (p most : Int) (h : Sl w v l) (hl : l.length≤140737488351232) :
  Calls Tryz.prog 183 #[v, .int .i64 p, .int .i64 most] w fun e w'=>e = .returned (tkT (Da l p most))∧Below w.heap.size w w':=by
 have h':=h
 obtain ⟨ao,cap,rfl,h1,h2,h3,h4⟩:=h'
 clear h4 h3
 unfold maxLen at h2
 have hcall:=Oh w (.slice ao l.length cap) l p h hl
 cases ht : Cc l p with
 | none=>
  have htt : Da l p most=none:=by unfold Da; rw [ht]
  rw [ht] at hcall
  have HC:=Ac hcall
  have HT:=Ac htt
  clear ht htt hcall
  go_enter Tryz.func183,Tryz.ntmps183
  go_wp2_with fail
  refine HC.out.mono ?_
  rintro e w1 ⟨rfl,hb⟩
  clear h
  unfold tkI
  go_wp2
  go_ret3
  exact ⟨by rw [HT.out]; rfl,hb⟩
 | some x=>
  obtain ⟨n,r⟩:=x
  obtain ⟨u,c,h0,hd,hnu,hq,hu,hql⟩:=Hn ht
  rw [ht] at hcall
  have HC:=Ac hcall
  have hq1 : (r : Int)≤(l.length : Int):=by omega
  by_cases hc : n<0∨most<n∨(l.length : Int) - r<n
  ·have htt : Da l p most=none:=by unfold Da; rw [ht]; simp only; rw [if_pos hc]
   have HT:=Ac htt
   clear ht htt hcall hd hnu hq hu hql
   go_enter Tryz.func183,Tryz.ntmps183
   go_wp2_with fail
   refine HC.out.mono ?_
   rintro e w1 ⟨rfl,hb⟩
   clear h
   unfold tkI
   go_wp2
   all_goals (go_ret3; exact ⟨by rw [HT.out]; rfl,hb⟩)
  ·have htt : Da l p most=some ((l.drop r).take n.toNat,r+n.toNat):=by unfold Da; rw [ht]; simp only; rw [if_neg hc]
   have c1 : 0≤n:=by omega
   have c2 : n≤most:=by omega
   have c3 : n≤(l.length : Int) - r:=by omega
   obtain ⟨m,rfl⟩:=Int.eq_ofNat_of_zero_le c1
   rw [show (m : Int).toNat=m from rfl] at htt
   have HT:=Ac htt
   clear ht htt hcall hd hnu hq hu hql hc
   go_enter Tryz.func183,Tryz.ntmps183
   go_wp2_with fail
   refine HC.out.mono ?_
   rintro e w1 ⟨rfl,hb⟩
   have hk:=h.keep hb
   unfold tkI
   clear h
   rcases Nat.lt_or_ge r cap with hrc | hrc
   ·have hs:=Sl.cutAt (show r+m≤l.length by omega) hrc hk
    clear hk
    go_wp2_with (refine Hl _ rfl (.tmp 43) rfl hs (by first | rfl | (simp [go_sem]; done)) ?_)
    go_ret3
    rw [HT.out]
    exact ⟨rfl,hb⟩
   ·obtain rfl : cap=r:=by omega
    have hs:=Sl.cutEnd (show cap+m≤l.length by omega) hk
    clear hk
    go_wp2_with (refine Hl _ rfl (.tmp 43) rfl hs (by first | rfl | (simp [go_sem]; done)) ?_)
    go_ret3
    rw [HT.out]
    exact ⟨rfl,hb⟩
end Go.Proofs.YtckejblkppllaaaGreatDoor
