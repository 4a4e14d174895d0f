/-
  Texts joined: TDigits, Pick.
-/
import Derived.Test.YtblniomnhpedjaaGreatDoorG34TLog
import Derived.Test.YtblniomnhpedjaaGreatDoorG1Chg
namespace Go.Proofs.YtblniomnhpedjaaGreatDoor
open Go.RowKit
def chT (d : Nat) : UInt8:=UInt8.ofNat (48+d)
theorem chT_nat {d : Nat} (h : d<10) : (chT d).toNat=48+d:=by
 unfold chT
 rw [UInt8.toNat_ofNat']
 omega
def dgs (n : Nat) : Bs:=if n=0 then [] else dgs (n / 10) ++ [chT (n % 10)]
termination_by n
decreasing_by omega
def dgT (n : Nat) : Bs:=dgs (n / 10) ++ [chT (n % 10)]
theorem dgs_pos {n : Nat} (h : n≠0) : dgs n=dgs (n / 10) ++ [chT (n % 10)]:=by
 conv=>lhs; unfold dgs
 rw [if_neg h]
theorem Km : dgs 0 = []:=by unfold dgs; rfl
theorem dgs_len : ∀ (k n : Nat),n<10 ^ k→(dgs n).length≤k
 | 0,n,h=>by
  obtain rfl : n=0:=by simpa using h
  rw [Km]
  simp
 | k+1,n,h=>by
  by_cases hn : n=0
  ·rw [hn,Km]
   simp
  ·rw [dgs_pos hn,List.length_append]
   have:=dgs_len k (n / 10) (by rw [Nat.pow_succ] at h; omega)
   simp
   omega
theorem strB_add (a b : Bs) : Ae a++Ae b=Ae (a++b):=by
 unfold Ae
 apply ByteArray.ext
 simp
theorem add_str (W : World) (a b : Bs) (h : a.length+b.length≤9223372036854775807) : (Op.stringOp .add (Ae a) (Ae b)).run Tryz.prog W = .ok (.string (Ae (a++b))) W:=by
 rw [run_string_add_sum _ _ _ (by rw [B6,B6]; omega),strB_add]
theorem one_text (W : World) (c : UInt8) : (convert 68 9 (.slice (some ⟨W.heap.size,0,none⟩) 1 1)).run Tryz.prog (W.alloc (.cells #[.int .u8 (c.toNat : Int)] 5)) = .ok (.string (Ae [c])) (W.alloc (.cells #[.int .u8 (c.toNat : Int)] 5)):=by
 refine Fi _ _ [c] ⟨some ⟨W.heap.size,0,none⟩,1,rfl,Nat.le_refl _,by unfold maxLen; omega,(fun h=>by cases h),fun _=>⟨W.heap.size,0,rfl,by simp,fun j hj=>?_⟩⟩
 have hj' : j=0:=by simpa using hj
 subst hj'
 rw [Ad (Aq W _)]
 rfl
theorem M8 (W : World) (n : Nat) : (convert 68 9 (.slice (some ⟨W.heap.size,0,none⟩) 1 1)).run Tryz.prog (W.alloc (.cells #[.int .u8 (48+(n : Int) % 10)] 5)) = .ok (.string (Ae [chT (n % 10)])) (W.alloc (.cells #[.int .u8 (48+(n : Int) % 10)] 5)):=by
 have h:=one_text W (chT (n % 10))
 rw [chT_nat (show n % 10<10 by omega),show ((48+n % 10 : Nat) : Int)=48+(n : Int) % 10 by omega] at h
 exact h
set_option maxRecDepth 20000 in
theorem Nf (w : World) (n : Nat) (hn : n≤99999) : Calls Tryz.prog 33 #[.int .i64 (n : Int)] w fun e w'=>e = .returned (.string (Ae (dgT n)))∧Below w.heap.size w w':=by
 have hcv:=M8 w n
 have hb1 : Below w.heap.size w (w.alloc (.cells #[.int .u8 (48+(n : Int) % 10)] 5)):=(Below.refl _ w).alloc (Nat.le_refl _) _
 go_enter Tryz.func33,Tryz.ntmps33
 go_wp2_with fail
 clear hcv
 generalize w.alloc (.cells #[.int .u8 (48+(n : Int) % 10)] 5)=w1 at *
 go_loopw [0,3] (fun t u wr=>∃ (m : Nat) (s : Bs),t = .int .i64 m∧m≤n∧u = .string (Ae s)∧dgs m++s=dgT n∧Below w.heap.size w wr) (fun t _ _=>(intOf t).toNat)
 case atStart=>exact ⟨n / 10,[chT (n % 10)],by first | rfl | go_num,by omega,rfl,rfl,hb1⟩
 case round=>
  obtain ⟨m,s,rfl,hm,rfl,hd,hbr⟩:=hrel
  by_cases h0 : m=0
  ·subst h0
   rw [Km,List.nil_append] at hd
   subst hd
   go_wp2_with fail
   skip
   try go_wp2
   go_ret
   exact ⟨rfl,hbr⟩
  ·have hpos : decide ((0 : Int)<(m : Int))=true:=decide_eq_true (by omega)
   have hcv:=M8 wr m
   have hb2 : Below w.heap.size w (wr.alloc (.cells #[.int .u8 (48+(m : Int) % 10)] 5)):=hbr.alloc hbr.size _
   have hd2 : dgs (m / 10)++([chT (m % 10)]++s)=dgT n:=by rw [← hd,dgs_pos h0,List.append_assoc]
   have hsl : s.length≤10:=by
    have h9 : (dgT n).length≤6:=by
     unfold dgT
     rw [List.length_append]
     have:=dgs_len 5 (n / 10) (by omega)
     simp
     omega
    rw [← hd,List.length_append] at h9
    omega
   have hadd:=fun W=>add_str W [chT (m % 10)] s (by simp; omega)
   have HD:=Ab (And.intro hd2 hb2)
   clear hd hd2 hb2 hsl
   go_wp2_with fail
   generalize wr.alloc (.cells #[.int .u8 (48+(m : Int) % 10)] 5)=w2 at *
   go_roundw
   case rel=>exact ⟨m / 10,_,by first | rfl | go_num,by omega,rfl,HD.out.1,HD.out.2⟩
   case measure=>simp [intOf]; omega
end Go.Proofs.YtblniomnhpedjaaGreatDoor
namespace Go.Proofs.YtblniomnhpedjaaGreatDoor
open Go.RowKit
def pk (c n : Int) : Int:=(if c<0 then -(c+1) else c) % n
theorem Ja {c n : Int} (hn : 0<n) : 0≤pk c n∧pk c n<n:=⟨Int.emod_nonneg _ (by omega),Int.emod_lt_of_pos _ hn⟩
theorem ret_i {a b : Int} (h : a=b) : Ending.returned (.int .i64 a) = .returned (.int .i64 b):=by rw [h]
set_option maxRecDepth 20000 in
theorem pick_any (w : World) (c n : Int) (hc : -9223372036854775808≤c∧c≤9223372036854775807) (hn : 0<n∧n≤1000) :
  Calls Tryz.prog 12 #[.int .i64 c, .int .i64 n] w fun e w'=>e = .returned (.int .i64 (pk c n))∧w'=w:=by
 have hn0 : ¬ n=0:=by omega
 unfold pk
 by_cases h : c<0
 ·rw [if_pos h]
  have hm : (-(c+1)).tmod n=(-(c+1)) % n:=Int.tmod_eq_emod_of_nonneg (by omega)
  have h1:=Int.emod_nonneg (-(c+1)) (show n≠0 by omega)
  have h2:=Int.emod_lt_of_pos (-(c+1)) (show 0<n by omega)
  go_enter Tryz.func12,Tryz.ntmps12
  go_wp2
  go_ret
  exact ⟨ret_i (by first | rfl | omega),rfl⟩
 ·rw [if_neg h]
  have hm : c.tmod n=c % n:=Int.tmod_eq_emod_of_nonneg (by omega)
  have h1:=Int.emod_nonneg c (show n≠0 by omega)
  have h2:=Int.emod_lt_of_pos c (show 0<n by omega)
  go_enter Tryz.func12,Tryz.ntmps12
  go_wp2
  go_ret
  exact ⟨ret_i (by first | rfl | omega),rfl⟩
end Go.Proofs.YtblniomnhpedjaaGreatDoor
