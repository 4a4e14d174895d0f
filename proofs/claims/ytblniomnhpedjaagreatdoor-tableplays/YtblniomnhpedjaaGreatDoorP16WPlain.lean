/-
  Texts joined: WPlain, WFold, WPut, WTake, WText, WFacts.
-/
import Derived.Test.YtblniomnhpedjaaGreatDoorRows
import Derived.WalkKit
import Derived.ProofKit
import Derived.Lib.BitFns
import Derived.Test.YtblniomnhpedjaaGreatDoorP1Chg
import Derived.Lib.AppendStr
import Derived.Laws.IdiomStrings
import Derived.WalkMore
import Derived.Deep.LoopGhost
namespace Go.Proofs.YtblniomnhpedjaaGreatDoor.Pl
def zz (n : Int) : Nat:=if 0≤n then (2 * n).toNat else (-2 * n - 1).toNat
def unzz (u : Nat) : Int:=if u % 2=0 then ((u / 2 : Nat) : Int) else -((u / 2 : Nat) : Int) - 1
def encF : Nat→Nat→List UInt8
 | 0,u=>[UInt8.ofNat u]
 | k+1,u=>if u<128 then [UInt8.ofNat u] else UInt8.ofNat (u % 128+128) :: encF k (u / 128)
def enc (u : Nat) : List UInt8:=encF 9 u
def dec : List UInt8→Nat→Nat→Option (Nat × Nat)
 | [],_,_=>none
 | c :: r,k,acc=>
  if k=9∧1<c.toNat then none
  else if 0<k∧c.toNat=0 then none
  else if c.toNat<128 then some (acc+c.toNat * 2 ^ (7 * k),k+1)
  else dec r (k+1) (acc+(c.toNat - 128) * 2 ^ (7 * k))
theorem zz_lt (n : Int) (h0 : -9223372036854775808≤n) (h1 : n≤9223372036854775807) : zz n<18446744073709551616:=by
 unfold zz; split <;> omega
theorem unzz_zz (n : Int) : unzz (zz n)=n:=by
 unfold unzz zz
 by_cases h : 0≤n
 ·rw [if_pos h,if_pos (by omega)]; omega
 ·rw [if_neg h,if_neg (by omega)]; omega
theorem zz_unzz (u : Nat) : zz (unzz u)=u:=by
 unfold unzz zz
 by_cases h : u % 2=0
 ·rw [if_pos h,if_pos (by omega)]; omega
 ·rw [if_neg h,if_neg (by omega)]; omega
theorem unzz_bd (u : Nat) (h : u<18446744073709551616) : -9223372036854775808≤unzz u∧unzz u≤9223372036854775807:=by
 unfold unzz; split <;> omega
theorem byte_small {u : Nat} (h : u<256) : (UInt8.ofNat u).toNat=u:=by
 rw [UInt8.toNat_ofNat']; exact Nat.mod_eq_of_lt h
theorem encF_length (f : Nat) : ∀ u,1≤(encF f u).length∧(encF f u).length≤f+1:=by
 induction f with
 | zero=>intro u; simp [encF]
 | succ f ih=>
  intro u
  unfold encF
  split
  ·simp
  ·have:=ih (u / 128); simp; omega
theorem enc_length (u : Nat) : 1≤(enc u).length∧(enc u).length≤10:=encF_length 9 u
theorem encF_fits (f : Nat) : ∀ u m : Nat,1≤m→u<2 ^ (7 * m)→(encF f u).length≤m:=by
 induction f with
 | zero=>intro u m h _; simpa [encF] using h
 | succ f ih=>
  intro u m h hu
  unfold encF
  split
  ·simpa using h
  ·rename_i h1
   cases m with
   | zero=>omega
   | succ m=>
    have hm : 1≤m:=by
     cases m with
     | zero=>simp at hu; omega
     | succ m=>omega
    have:=ih (u / 128) m hm (by rw [Nat.mul_add,Nat.pow_add] at hu; omega)
    simp; omega
theorem enc_fits (u m : Nat) (h : 1≤m) (hu : u<2 ^ (7 * m)) : (enc u).length≤m:=encF_fits 9 u m h hu
theorem p7 (k : Nat) : 2 ^ (7 * (k+1))=128 * 2 ^ (7 * k):=by
 rw [Nat.mul_add,Nat.pow_add]; omega
theorem dec_encF (f : Nat) : ∀ (u k acc : Nat) (r : List UInt8),f+k=9→u * 2 ^ (7 * k)<18446744073709551616→(0<k→0<u) →
  dec (encF f u++r) k acc=some (acc+u * 2 ^ (7 * k),k+(encF f u).length):=by
 induction f with
 | zero=>
  intro u k acc r hk hu hp
  obtain rfl : k=9:=by omega
  have hu2 : u<2:=by
   have : (2 : Nat) ^ (7 * 9)=9223372036854775808:=by decide
   rw [this] at hu; omega
  have hb : (UInt8.ofNat u).toNat=u:=byte_small (by omega)
  have h0 : 0<u:=hp (by omega)
  simp only [encF,List.cons_append,dec,hb]
  rw [if_neg (by omega),if_neg (by omega),if_pos (by omega)]
  rfl
 | succ f ih=>
  intro u k acc r hk hu hp
  unfold encF
  by_cases h : u<128
  ·have hb : (UInt8.ofNat u).toNat=u:=byte_small (by omega)
   rw [if_pos h]
   simp only [List.cons_append,dec,hb]
   rw [if_neg (by omega),if_neg (by omega),if_pos h]
   rfl
  ·have hb : (UInt8.ofNat (u % 128+128)).toNat=u % 128+128:=byte_small (by omega)
   rw [if_neg h]
   simp only [List.cons_append,dec,hb]
   have hsp : u * 2 ^ (7 * k)=(u % 128) * 2 ^ (7 * k)+(u / 128) * 2 ^ (7 * (k+1)):=by
    rw [p7,← Nat.mul_assoc,← Nat.add_mul]; congr 1; omega
   rw [if_neg (by omega),if_neg (by omega),if_neg (by omega),ih (u / 128) (k+1) _ r (by omega) (by omega) (by omega)]
   simp only [List.length_cons,Option.some.injEq,Prod.mk.injEq]
   refine ⟨?_,by omega⟩
   rw [hsp,Nat.add_sub_cancel,Nat.add_assoc]
theorem dec_enc (u : Nat) (r : List UInt8) (h : u<18446744073709551616) : dec (enc u++r) 0 0=some (u,(enc u).length):=by
 have:=dec_encF 9 u 0 0 r (by omega) (by simpa using h) (by omega)
 simpa [enc] using this
theorem encF_small (f u : Nat) (h : u<128) : encF f u = [UInt8.ofNat u]:=by
 cases f with
 | zero=>rfl
 | succ f=>unfold encF; rw [if_pos h]
theorem dec_sound : ∀ (l : List UInt8) (k acc u c : Nat),k≤9→dec l k acc=some (u,c) →
  ∃ x m,u=acc+x * 2 ^ (7 * k)∧c=k+m∧m≤l.length∧l.take m=encF (9 - k) x∧(0<k→0<x)∧x * 2 ^ (7 * k)<18446744073709551616:=by
 intro l
 induction l with
 | nil=>intro k acc u c _ h; simp [dec] at h
 | cons b r ih=>
  intro k acc u c hk h
  have hb : b.toNat<256:=b.toNat_lt
  simp only [dec] at h
  split at h
  ·cases h
  split at h
  ·cases h
  split at h
  ·rename_i h1 h2 h3
   simp only [Option.some.injEq,Prod.mk.injEq] at h
   refine ⟨b.toNat,1,h.1.symm,h.2.symm,by simp,?_,by omega,?_⟩
   ·rw [encF_small _ _ h3]; simp
   ·by_cases e : k=9
    ·subst e; have e2 : (2 : Nat) ^ (7 * 9)=9223372036854775808:=by decide
     rw [e2]; omega
    ·have : (2 : Nat) ^ (7 * k)≤2 ^ 56:=Nat.pow_le_pow_right (by omega) (by omega)
     have e3 : (2 : Nat) ^ 56=72057594037927936:=by decide
     rw [e3] at this
     have:=Nat.mul_le_mul (show b.toNat≤127 by omega) this
     omega
  ·rename_i h1 h2 h3
   obtain ⟨x,m,hu,hc,hm,ht,hx,hlt⟩:=ih (k+1) _ u c (by omega) h
   have hx0:=hx (by omega)
   refine ⟨b.toNat - 128+128 * x,m+1,?_,by omega,by simp; omega,?_,by omega,?_⟩
   ·rw [hu,p7,Nat.add_mul,Nat.add_assoc]; congr 2; rw [Nat.mul_comm 128 x,Nat.mul_assoc]
   ·rw [List.take_succ_cons,ht,show 9 - k=(9 - (k+1))+1 from by omega]
    conv=>rhs; unfold encF
    rw [if_neg (by omega)]
    have e1 : (b.toNat - 128+128 * x) % 128+128=b.toNat:=by omega
    have e2 : (b.toNat - 128+128 * x) / 128=x:=by omega
    rw [e1,e2]
    simp
   ·rw [p7] at hlt
    have e : (b.toNat - 128+128 * x) * 2 ^ (7 * k)=(b.toNat - 128) * 2 ^ (7 * k)+x * (128 * 2 ^ (7 * k)):=by
     rw [Nat.add_mul]; congr 1; rw [Nat.mul_comm 128 x,Nat.mul_assoc]
    have hk8 : k≤8:=by omega
    have key : (b.toNat - 128) * 2 ^ (7 * k)<128 * 2 ^ (7 * k):=Nat.mul_lt_mul_of_pos_right (by omega) (Nat.two_pow_pos _)
    rw [e]
    have hd : x * (128 * 2 ^ (7 * k))+128 * 2 ^ (7 * k)≤18446744073709551616:=by
     have hpw : 18446744073709551616=2 ^ (64 - 7 * (k+1)) * (128 * 2 ^ (7 * k)):=by
      rw [← p7,← Nat.pow_add,show 64 - 7 * (k+1)+7 * (k+1)=64 from by omega]
     rw [hpw] at hlt ⊢
     have:=Nat.lt_of_mul_lt_mul_right hlt
     rw [← Nat.succ_mul]
     exact Nat.mul_le_mul_right _ this
    omega
theorem dec_take {l : List UInt8} {u c : Nat} (h : dec l 0 0=some (u,c)) : u<18446744073709551616∧c≤l.length∧l.take c=enc u∧c=(enc u).length:=by
 obtain ⟨x,m,hu,hc,hm,ht,_,hlt⟩:=dec_sound l 0 0 u c (by omega) h
 simp at hu hc hlt
 subst hu hc
 refine ⟨hlt,hm,ht,?_⟩
 have:=congrArg List.length ht
 simp at this
 unfold enc
 omega
theorem enc_prefix {u v : Nat} {r : List UInt8} (hu : u<18446744073709551616) (hv : v<18446744073709551616) (h : enc v=enc u++r) : u=v∧r = []:=by
 have h1:=dec_enc v [] hv
 rw [List.append_nil,h,dec_enc u r hu] at h1
 simp only [Option.some.injEq,Prod.mk.injEq] at h1
 refine ⟨h1.1,?_⟩
 have:=h1.2
 simp at this
 exact this
theorem dec_cut {u j : Nat} (hu : u<18446744073709551616) (hj : j<(enc u).length) : dec ((enc u).take j) 0 0=none:=by
 cases h : dec ((enc u).take j) 0 0 with
 | none=>rfl
 | some p=>
  obtain ⟨v,c⟩:=p
  obtain ⟨hv,hc,ht,he⟩:=dec_take h
  have hc' : c≤j:=by simp at hc; omega
  rw [List.take_take,Nat.min_eq_left hc'] at ht
  have e : enc u=enc v++(enc u).drop c:=by rw [← ht,List.take_append_drop]
  have:=(enc_prefix hv hu e).2
  simp at this
  omega
end Go.Proofs.YtblniomnhpedjaaGreatDoor.Pl
namespace Go.Proofs.YtblniomnhpedjaaGreatDoor
open Go.RowKit
theorem Pd (b : Nat) (hb : b<18446744073709551616) : 18446744073709551615 ^^^ b=18446744073709551615 - b:=by
 have hb' : b<2 ^ 64:=by simpa using hb
 have e : ((2 ^ 64 - 1 : Nat)) ^^^ b=2 ^ 64 - 1 - b:=by
  apply Nat.eq_of_testBit_eq
  intro i
  rw [Nat.testBit_xor,Nat.testBit_two_pow_sub_one,show 2 ^ 64 - 1 - b=2 ^ 64 - (b+1) by omega,Nat.testBit_two_pow_sub_succ hb']
  by_cases hi : i<64
  ·simp [hi]
  ·have : b.testBit i=false:=Nat.testBit_lt_two_pow (Nat.lt_of_lt_of_le hb' (Nat.pow_le_pow_right (by decide) (by omega)))
   simp [hi,this]
 simpa using e
theorem fold_eq (n : Int) (h0 : -9223372036854775808≤n) (h1 : n≤9223372036854775807) :
  bits .xor .u64 (IntKind.u64.wrap (IntKind.u64.wrap n * 2)) (IntKind.u64.wrap (n / 9223372036854775808))=((Pl.zz n : Nat) : Int):=by
 by_cases h : 0≤n
 ·have e1 : IntKind.u64.wrap (IntKind.u64.wrap n * 2)=((2 * n).toNat : Int):=by
   rw [IntKind.wrap_u64,IntKind.wrap_u64]; omega
  have e2 : IntKind.u64.wrap (n / 9223372036854775808)=((0 : Nat) : Int):=by
   rw [IntKind.wrap_u64]; omega
  rw [e1,e2,bits_xor_u64_nat _ _ (by omega) (by omega),Nat.xor_zero]
  unfold Pl.zz; rw [if_pos h]
 ·have e1 : IntKind.u64.wrap (IntKind.u64.wrap n * 2)=((2 * n+18446744073709551616).toNat : Int):=by
   rw [IntKind.wrap_u64,IntKind.wrap_u64]; omega
  have e2 : IntKind.u64.wrap (n / 9223372036854775808)=((18446744073709551615 : Nat) : Int):=by
   rw [IntKind.wrap_u64]; omega
  rw [e1,e2,bits_xor_u64_nat _ _ (by omega) (by omega),Nat.xor_comm,Pd _ (by omega)]
  unfold Pl.zz; rw [if_neg h]
  omega
theorem Fq {k : IntKind} {a b : Int} (h : a=b) : Ending.returned (.int k a) = .returned (.int k b):=by rw [h]
theorem fold_any (n : Int) (w : World) (h0 : -9223372036854775808≤n) (h1 : n≤9223372036854775807) :
  Calls Tryz.prog 111 #[.int .i64 n] w fun e w'=>e = .returned (.int .u64 (Pl.zz n))∧w'=w:=by
 go_enter Tryz.func111,Tryz.ntmps111
 go_wp2
 go_ret
 exact ⟨Fq (fold_eq n h0 h1),rfl⟩
theorem i64_not (x : Nat) (hx : x<9223372036854775808) : bits .xor .i64 (x : Int) (-1) = -(x : Int) - 1:=by
 show IntKind.i64.wrap ((BitVec.ofInt 64 (x : Int) ^^^ BitVec.ofInt 64 (-1)).toNat : Int)=_
 have h1 : (BitVec.ofInt 64 (-1)).toNat=18446744073709551615:=by decide
 have h2 : (BitVec.ofInt 64 (x : Int)).toNat=x:=by
  rw [BitVec.ofInt_natCast,BitVec.toNat_ofNat]; exact Nat.mod_eq_of_lt (by omega)
 rw [BitVec.toNat_xor,h1,h2,Nat.xor_comm,Pd x (by omega),IntKind.wrap_i64]
 omega
theorem i64_xor0 (x : Nat) (hx : x<9223372036854775808) : bits .xor .i64 (x : Int) 0=(x : Int):=by
 show IntKind.i64.wrap ((BitVec.ofInt 64 (x : Int) ^^^ BitVec.ofInt 64 0).toNat : Int)=_
 have h1 : (BitVec.ofInt 64 0).toNat=0:=by decide
 have h2 : (BitVec.ofInt 64 (x : Int)).toNat=x:=by
  rw [BitVec.ofInt_natCast,BitVec.toNat_ofNat]; exact Nat.mod_eq_of_lt (by omega)
 rw [BitVec.toNat_xor,h1,h2,Nat.xor_zero,IntKind.wrap_i64]
 omega
theorem wraps_u64 (n : Int) (h₀ : 0≤n) (h₁ : n<2 ^ 64) : IntKind.u64.wrap n=n:=by rw [IntKind.wrap_u64]; omega
theorem u64_and1 (x : Int) (h₀ : 0≤x) (h₁ : x<18446744073709551616) : bits .and .u64 x 1=x % 2:=by
 have h:=bits_mask .u64 64 (by decide) wraps_u64 1 (by decide) x h₀ (by omega)
 simpa using h
theorem unfold_eq (u : Nat) (h1 : u<18446744073709551616) :
  bits .xor .i64 ((u : Int) / 2) (wrap64 (-wrap64 (bits .and .u64 (u : Int) 1)))=Pl.unzz u:=by
 rw [u64_and1 _ (by omega) (by omega)]
 have e0 : ((u : Int) / 2)=((u / 2 : Nat) : Int):=by omega
 unfold Pl.unzz
 by_cases h : u % 2=0
 ·have e : ((u : Int) % 2)=0:=by omega
  rw [if_pos h,e,show wrap64 (-wrap64 0)=0 from by unfold wrap64; omega,e0,i64_xor0 _ (by omega)]
 ·have e : ((u : Int) % 2)=1:=by omega
  rw [if_neg h,e,show wrap64 (-wrap64 1) = -1 from by unfold wrap64; omega,e0,i64_not _ (by omega)]
theorem P0 (u : Nat) (w : World) (h1 : u<18446744073709551616) :
  Calls Tryz.prog 154 #[.int .u64 u] w fun e w'=>e = .returned (.int .i64 (Pl.unzz u))∧w'=w:=by
 go_enter Tryz.func154,Tryz.ntmps154
 go_wp2
 go_ret
 exact ⟨Fq (unfold_eq u h1),rfl⟩
theorem len8_at (y : Int) (h : y.toNat<Lib.len8tab.size) : ((Lib.len8tab[y.toNat]'h).toNat : Int)=Lib.len8 y:=by
 unfold Lib.len8
 rw [getElem?_pos Lib.len8tab y.toNat h]
 rfl
theorem bitLenAux_gt : ∀ f x : Nat,x<2 ^ f→x<2 ^ Lib.bitLenAux f x:=by
 intro f
 induction f with
 | zero=>intro x h; simpa [Lib.bitLenAux] using h
 | succ f ih=>
  intro x h
  unfold Lib.bitLenAux
  split
  ·subst_vars; simp
  ·have:=ih (x / 2) (by rw [Nat.pow_succ] at h; omega)
   rw [Nat.add_comm,Nat.pow_succ]
   omega
theorem tab_fact (y : Int) (h0 : 0≤y) (h1 : y≤255) (h : y.toNat<Lib.len8tab.size) : ∃ m : Nat,((Lib.len8tab[y.toNat]'h).toNat : Int)=(m : Int)∧m≤8∧y+1≤2 ^ m:=by
 have e:=(len8_at y h).trans (Lib.len8_of y h0 h1)
 have f1:=Lib.bitLen_le8' y h0 h1
 have f2 : y.toNat<2 ^ Lib.bitLen y.toNat:=bitLenAux_gt 64 _ (by omega)
 generalize Lib.bitLen y.toNat=m at *
 refine ⟨m,e,f1,?_⟩
 clear e
 have h3 : ((y.toNat : Nat) : Int)<((2 ^ m : Nat) : Int):=by omega
 rw [Int.natCast_pow] at h3
 have h4 : (((2 : Nat) : Int))=2:=rfl
 rw [h4] at h3
 omega
theorem Fj (x y : Int) (b : Nat) (w : World) (hb : b≤56) (h0 : 0≤y) (h1 : y≤255) (h : y.toNat<Lib.len8tab.size) (hx : x<(y+1) * 2 ^ b) :
  ∃ n : Nat,Ending.returned (.int .i64 (wrap64 ((b : Int)+wrap64 ((Lib.len8tab[y.toNat]'h).toNat : Int))))=Ending.returned (.int .i64 n)∧n≤64∧x<2 ^ n∧w=w:=by
 obtain ⟨m,e,f1,f2⟩:=tab_fact y h0 h1 h
 rw [e]
 clear e
 refine ⟨b+m,Fq ?_,by omega,?_,rfl⟩
 ·unfold wrap64; omega
 ·rw [Int.pow_add]
  have hp : (0 : Int)≤2 ^ b:=Int.pow_nonneg (by omega)
  have:=Int.mul_le_mul_of_nonneg_right f2 hp
  rw [Int.mul_comm (2 ^ b)]
  omega
theorem len_end0 (x : Int) (w : World) (h0 : 0≤x) (h1 : x≤255) (h : x.toNat<Lib.len8tab.size) :
  ∃ n : Nat,Ending.returned (.int .i64 (wrap64 (wrap64 ((Lib.len8tab[x.toNat]'h).toNat : Int))))=Ending.returned (.int .i64 n)∧n≤64∧x<2 ^ n∧w=w:=by
 obtain ⟨m,e,f1,f2⟩:=tab_fact x h0 h1 h
 rw [e]
 clear e
 refine ⟨m,Fq ?_,by omega,by omega,rfl⟩
 unfold wrap64; omega
set_option maxRecDepth 100000 in
set_option maxHeartbeats 1000000 in
theorem len64_any (x : Int) (w : World) (h0 : 0≤x) (h1 : x≤18446744073709551615) :
  Calls Tryz.prog 110 #[.int .u64 x] w fun e w'=>∃ n : Nat,e = .returned (.int .i64 n)∧n≤64∧x<2 ^ n∧w'=w:=by
 have hsz : (Lib.len8tab.size : Int)=256:=by rw [Lib.len8tab_size]; rfl
 have HS : Hid ((Lib.len8tab.size : Int)=256):=hsz
 clear hsz
 go_enter Tryz.func110,Tryz.ntmps110
 go_wp2
 ·go_ret; exact Fj x (x / 4294967296 / 65536 / 256) 56 _ (by omega) (by omega) (by omega) _ (by omega)
 ·exfalso; have hs:=HS.out; omega
 ·go_ret; exact Fj x (x / 4294967296 / 65536) 48 _ (by omega) (by omega) (by omega) _ (by omega)
 ·exfalso; have hs:=HS.out; omega
 ·go_ret; exact Fj x (x / 4294967296 / 256) 40 _ (by omega) (by omega) (by omega) _ (by omega)
 ·exfalso; have hs:=HS.out; omega
 ·go_ret; exact Fj x (x / 4294967296) 32 _ (by omega) (by omega) (by omega) _ (by omega)
 ·exfalso; have hs:=HS.out; omega
 ·go_ret; exact Fj x (x / 65536 / 256) 24 _ (by omega) (by omega) (by omega) _ (by omega)
 ·exfalso; have hs:=HS.out; omega
 ·go_ret; exact Fj x (x / 65536) 16 _ (by omega) (by omega) (by omega) _ (by omega)
 ·exfalso; have hs:=HS.out; omega
 ·go_ret; exact Fj x (x / 256) 8 _ (by omega) (by omega) (by omega) _ (by omega)
 ·exfalso; have hs:=HS.out; omega
 ·go_ret; exact len_end0 x _ (by omega) (by omega) _
theorem or1_le (x : Int) (h0 : 0≤x) (h1 : x≤18446744073709551615) : x≤bits .or .u64 x 1∧bits .or .u64 x 1≤18446744073709551615:=by
 have e:=u64_or x 1 h0 (by omega) (by omega) (by omega)
 rw [e]
 have h2 : x.toNat≤x.toNat ||| (1 : Int).toNat:=Nat.left_le_or
 have h3 : x.toNat ||| (1 : Int).toNat<2 ^ 64:=Nat.or_lt_two_pow (by omega) (by decide)
 omega
theorem or1_pos (x : Int) (h0 : 0≤x) (h1 : x≤18446744073709551615) : 1≤bits .or .u64 x 1:=by
 have e:=u64_or x 1 h0 (by omega) (by omega) (by omega)
 rw [e]
 have h2 : (1 : Int).toNat≤x.toNat ||| (1 : Int).toNat:=Nat.right_le_or
 have h3 : (1 : Int).toNat=1:=rfl
 omega
theorem width_end (x y : Int) (n : Nat) (w : World) (hb : x≤y) (hp : 1≤y) (hn : n≤64) (hx : y<2 ^ n) :
  ∃ m : Nat,Ending.returned (.int .i64 (((n : Int)+7 - 1) / 7))=Ending.returned (.int .i64 m)∧1≤m∧m≤10∧x.toNat<2 ^ (7 * m)∧w=w:=by
 have h0 : n≠0:=by rintro rfl; simp at hx; omega
 have h2 : y.toNat<2 ^ n:=by
  have e : ((2 ^ n : Nat) : Int)=2 ^ n:=Int.natCast_pow 2 n
  rw [← e] at hx
  omega
 have h3 : (2 : Nat) ^ n≤2 ^ (7 * ((n+6) / 7)):=Nat.pow_le_pow_right (by omega) (by omega)
 exact ⟨(n+6) / 7,Fq (by omega),by omega,by omega,by omega,rfl⟩
theorem width_any (x : Int) (w : World) (h0 : 0≤x) (h1 : x≤18446744073709551615) :
  Calls Tryz.prog 114 #[.int .u64 x] w fun e w'=>∃ n : Nat,e = .returned (.int .i64 n)∧1≤n∧n≤10∧x.toNat<2 ^ (7 * n)∧w'=w:=by
 have hb:=or1_le x h0 h1
 have hp:=or1_pos x h0 h1
 go_enter Tryz.func114,Tryz.ntmps114
 go_wp2_with fail
 refine (len64_any _ _ (by omega) hb.2).mono ?_
 rintro e w' ⟨n,rfl,hn,hx,rfl⟩
 go_wp2
 go_ret
 exact width_end x _ n _ hb.1 hp hn hx
end Go.Proofs.YtblniomnhpedjaaGreatDoor
namespace Go.Proofs.YtblniomnhpedjaaGreatDoor
open Go.RowKit
theorem Sl.keepB {w w' : World} {v : Value} {l : List UInt8} (h : Sl w v l) (hb : Below w.heap.size w w') : Sl w' v l:=by
 obtain ⟨ao,cap,hv,h1,h2,h3,h4⟩:=h
 refine ⟨ao,cap,hv,h1,h2,h3,fun hl=>?_⟩
 obtain ⟨b,off,ha,hlt,hc⟩:=h4 hl
 exact ⟨b,off,ha,Nat.lt_of_lt_of_le hlt hb.size,fun j hj=>(hb.cell (p:=⟨b,off+j,none⟩) hlt).trans (hc j hj)⟩
theorem Sl.cells {w w' : World} {ao : Option Addr} {n cap : Nat} {l : List UInt8} (h : Sl w (.slice ao n cap) l) (hb : Below w.heap.size w w') :
  ∀ ad,ao=Option.some ad→∀ j u,(bc l)[j]? = Option.some u→w'.cell? (ad.add j)=Option.some u:=by
 intro ad had j u hu
 obtain ⟨ao',cap',hv,_,_,_,h4⟩:=h.keepB hb
 have hj : j<l.length:=by
  have:=(List.getElem?_eq_some_iff.1 hu).1
  rwa [C3] at this
 obtain ⟨b,off,ha,_,hc⟩:=h4 (by rintro rfl; simp at hj)
 injection hv with e1 e2 e3
 rw [← e1,had] at ha
 injection ha with ha
 subst ha
 rw [Eu l j hj] at hu
 injection hu with hu
 subst hu
 rw [Addr.add_lit]
 exact hc j hj
theorem Tryz.infoB : (Tryz.prog.info? 5).map (fun i=>(i.zero,i.size,i.bytes))=some (some (.int .u8 0),1,1):=by kernel_rfl
set_option maxHeartbeats 400000 in
theorem withRoom_nat (w : World) (v : Value) (l : List UInt8) (room : Nat) (h : Sl w v l) (hr : l.length+room≤281474976710656) :
  Calls Tryz.prog 113 #[v, .int .i64 room] w fun e w'=>e = .returned (.slice (some ⟨w.heap.size,0,none⟩) l.length (l.length+room)) ∧
   w'.ownsRow w.heap.size 5 1 (.slice (some ⟨w.heap.size,0,none⟩) l.length (l.length+room)) l.length (bc l)∧Below w.heap.size w w'∧w.heap.size<w'.heap.size:=by
 have h':=h
 obtain ⟨ao,cap,rfl,h1,h2,h3,h4⟩:=h'
 clear h4
 obtain ⟨i0,hi,hz0,hz1,hz2⟩:=info_parts Tryz.infoB
 go_enter Tryz.func113,Tryz.ntmps113
 go_wp2_with (first
  | (at_make; refine wpList_make_own _ rfl _ _ 68 rfl w.heap.size 5 i0 (.int .u8 0) 1 Tryz.underlying68 hi hz0 hz1 .i64 .i64 _ (l.length+room) rfl rfl (by omega) (by rw [hz2]; omega) (by unfold maxLen; omega) (Nat.le_refl _) ?_; intro w1 hown1 hgrow1)
  | (at_builtin; refine wpList_append_fits_any _ rfl (.tmp 9) (.tmp 10) 68 rfl w.heap.size 5 i0 1 Tryz.underlying68 hi hz1 w.heap.size 0 (l.length+room) [] rfl hown1 ao l.length cap (bc l) rfl (by rw [C3,Nat.mul_one]) (by intro hn; have:=h3 hn; omega) (h.cells ((Below.refl _ _).grown hgrow1 (Nat.le_refl _) (by intro k hk; cases hk))) (E7 l) (by omega) ?_; intro w2 hown2 hgrow2))
 go_ret
 simp only [Nat.zero_add,List.nil_append] at hown2
 refine ⟨rfl,hown2,((Below.refl _ _).grown hgrow1 (Nat.le_refl _) (by intro k hk; cases hk)).grown hgrow2 hgrow1.size (by intro k hk; injection hk with hk; omega),?_⟩
 exact (hown2.lt _ rfl).2
theorem withRoom_any (w : World) (v : Value) (l : List UInt8) (room : Int) (h : Sl w v l) (h0 : 0≤room) (hr : (l.length : Int)+room≤281474976710656) :
  Calls Tryz.prog 113 #[v, .int .i64 room] w fun e w'=>∃ cap : Nat,(l.length : Int)+room=cap∧e = .returned (.slice (some ⟨w.heap.size,0,none⟩) l.length cap) ∧
   w'.ownsRow w.heap.size 5 1 (.slice (some ⟨w.heap.size,0,none⟩) l.length cap) l.length (bc l)∧Below w.heap.size w w'∧w.heap.size<w'.heap.size:=by
 obtain ⟨r,rfl⟩:=Int.eq_ofNat_of_zero_le h0
 refine (withRoom_nat w v l r h (by omega)).mono ?_
 rintro e w' ⟨rfl,a,b,c⟩
 exact ⟨l.length+r,by omega,rfl,a,b,c⟩
theorem or128 (x : Nat) : bits .or .u8 ((x : Int) % 256) 128=(((UInt8.ofNat (x % 128+128)).toNat : Nat) : Int):=by
 have e : (x : Int) % 256=((x % 256 : Nat) : Int):=by omega
 rw [e,show (128 : Int)=((128 : Nat) : Int) from rfl,u8_or_nat _ _ (by omega) (by omega),Pl.byte_small (by omega)]
 have h : ∀ a : Fin 256,a.val ||| 128=a.val % 128+128:=by decide +kernel
 have:=h ⟨x % 256,by omega⟩
 simp only at this
 omega
theorem Qr {P : Program} (w : World) {ops : Array Oper} {rest : List Oper} {o : Oper} {a : Act} {Q : Exit→Act→World→Prop} (hgd : o.guard=none) (sl x : Operand) (t u : TypeId)
  (ho : o.op = .call { callee:=.builtin .append,args:=#[sl,x],argTypes:=#[t,u] })
  (base : Nat) (e : TypeId) (i : TypeInfo) (ht : P.underlying t=some (.slice e)) (hu : P.underlying u=some .string) (hi : P.info? e=some i) (hsize : i.size=1)
  (g n cap : Nat) (xs : List Value) (hs : a.eval sl = .slice (some ⟨g,0,none⟩) n cap) (hown : w.ownsRow base e 1 (.slice (some ⟨g,0,none⟩) n cap) n xs) (s : ByteArray) (hx : a.eval x = .string s)
  (hroom : n+s.size≤cap)
  (h : ∀ w',w'.ownsRow base e 1 (.slice (some ⟨g,0,none⟩) (n+s.size) cap) (n+s.size) (xs++Lib.strCells s)→w.grownBy w' (some g)→wpList P ops Q rest (a.put o.dst (.slice (some ⟨g,0,none⟩) (n+s.size) cap)) w') :
  wpList P ops Q (o :: rest) a w:=by
 refine wpList_plain hgd fun K hK=>?_
 have hlen : (xs++Lib.strCells s).length=(n+s.size) * 1:=by rw [List.length_append,hown.1,Lib.strCells_length]; omega
 rcases hown.2 with ⟨h0,_⟩ | ⟨g',cap',cur,h0,hbg,hg,hnc,hcm,hcs,htake⟩
 ·simp at h0
 ·simp only [Value.slice.injEq,Option.some.injEq,Addr.mk.injEq,and_true,true_and] at h0
  obtain ⟨rfl,rfl⟩:=h0
  have hr:=Lib.run_append_room_string (P:=P) w t u o.type e i ht hu hi hsize g n cap cur hg s hroom (by omega)
  unfold Oper.wp execOp
  simp only [ho,resolve,invoke,builtin,Sem.run_bind,Sem.run_pure,Result.andThen_ok,List.map_toArray,List.map_cons,List.map_nil,hs,hx,hr]
  refine hK _ _ (h _ ⟨hlen, .inr ⟨g,cap,_,rfl,hbg,setRow_heap w g cur _ e _ hg,hroom,hcm,?_,?_⟩⟩ ⟨rfl,rfl,rfl,by simp,fun k _ hk=>setRow_other w g k _ (fun e=>hk (by simp [e]))⟩)
  ·have:=Lib.strCells_length s
   simp only [List.size_toArray,List.length_append,List.length_take,List.length_drop,Array.length_toList]
   omega
  ·rw [Nat.mul_one] at htake hlen ⊢
   rw [htake,← hlen]
   exact List.take_left
set_option maxRecDepth 20000 in
set_option maxHeartbeats 400000 in
theorem putBits_any (w : World) (base g cap : Nat) (l : List UInt8) (u : Nat) (hu : u<18446744073709551616) (hbase : base≤w.heap.size)
  (hown : w.ownsRow base 5 1 (.slice (some ⟨g,0,none⟩) l.length cap) l.length (bc l)) (hfit : l.length+(Pl.enc u).length≤cap) :
  Calls Tryz.prog 112 #[.slice (some ⟨g,0,none⟩) l.length cap, .int .u64 u] w fun e w'=>e = .returned (.slice (some ⟨g,0,none⟩) (l++Pl.enc u).length cap) ∧
   w'.ownsRow base 5 1 (.slice (some ⟨g,0,none⟩) (l++Pl.enc u).length cap) (l++Pl.enc u).length (bc (l++Pl.enc u))∧Below base w w':=by
 obtain ⟨i0,hi,hz0,hz1,hz2⟩:=info_parts Tryz.infoB
 have hg : base≤g:=(hown.lt g rfl).1
 have HF : Hid (l.length+(Pl.enc u).length≤cap):=hfit
 have HU : Hid (u<18446744073709551616):=hu
 clear hfit hu
 go_enter Tryz.func112,Tryz.ntmps112
 go_wp2
 go_loopw [0,1] (fun v x wr=>∃ (pre : List UInt8) (y f : Nat),v = .slice (some ⟨g,0,none⟩) (l.length+pre.length) cap∧x = .int .u64 y∧y<2 ^ (7 * f+1)∧f≤9∧Pl.enc u=pre++Pl.encF f y ∧
   wr.ownsRow base 5 1 (.slice (some ⟨g,0,none⟩) (l.length+pre.length) cap) (l.length+pre.length) (bc (l++pre))∧Below base w wr)
  (fun _ x _=>(intOf x).toNat)
 case atStart=>exact ⟨[],u,9,by simp,rfl,by simpa using HU.out,by omega,rfl,by simpa using hown,Below.refl _ _⟩
 case round=>
  obtain ⟨pre,y,f,rfl,rfl,hy,hf,he,hown',hbel⟩:=hrel
  by_cases hlt : 128≤y
  ·obtain ⟨f,rfl⟩ : ∃ f',f=f'+1:=⟨f - 1,by cases f with | zero=>simp at hy; omega | succ f=>omega⟩
   have he' : Pl.enc u=(pre ++ [UInt8.ofNat (y % 128+128)])++Pl.encF f (y / 128):=by
    rw [he]; conv=>lhs; unfold Pl.encF
    rw [if_neg (by omega)]; simp
   have hy' : y / 128<2 ^ (7 * f+1):=by
    rw [show 7 * (f+1)+1=(7 * f+1)+7 from by omega,Nat.pow_add] at hy; omega
   have hcap : l.length+pre.length+1≤cap:=by
    have:=HF.out; rw [he'] at this; simp at this; omega
   have HE : Hid (Pl.enc u=(pre ++ [UInt8.ofNat (y % 128+128)])++Pl.encF f (y / 128)):=he'
   have HY : Hid (y / 128<2 ^ (7 * f+1)):=hy'
   have hsz:=hbel.size
   clear he he' hy hy'
   go_wp2_with (at_builtin; refine wpList_append_fits _ rfl (.tmp 7) (.tmp 11) 68 rfl base 5 i0 1 Tryz.underlying68 hi hz1 g (l.length+pre.length) cap (bc (l++pre)) rfl (hown'.alloc _) ⟨wr.heap.size,0,none⟩ 1 1 (bc [UInt8.ofNat (y % 128+128)]) rfl rfl ?c1 (E7 _) hcap ?_)
   case c1=>
    intro j x hj
    match j,hj with
    | 0,hj=>simp [bc] at hj; subst hj; simp [Addr.add_lit,or128]
   intro w2 hown2 hgrow2
   have hb2 : Below base w w2:=(hbel.alloc (by omega) _).grown hgrow2 (by simp; omega) (by intro k hk; injection hk with hk; omega)
   rw [← Fa,List.append_assoc] at hown2
   clear hgrow2 hown' hown hbel
   go_wp2
   go_roundw
   case rel=>exact ⟨pre ++ [UInt8.ofNat (y % 128+128)],y / 128,f,by simp; omega,by go_num,HY.out,by omega,HE.out,by simpa [Nat.add_assoc] using hown2,hb2⟩
   case measure=>simp [intOf]; omega
  ·have HY : Hid (y<2 ^ (7 * f+1)):=hy
   have HE : Hid (Pl.enc u=pre ++ [UInt8.ofNat y]):=by rw [he,Pl.encF_small f y (by omega)]; rfl
   have hcap : l.length+pre.length+1≤cap:=by
    have:=HF.out; rw [HE.out] at this; simp at this; omega
   have hsz:=hbel.size
   clear hy he
   go_wp2_with (at_builtin; refine wpList_append_fits _ rfl (.tmp 15) (.tmp 18) 68 rfl base 5 i0 1 Tryz.underlying68 hi hz1 g (l.length+pre.length) cap (bc (l++pre)) rfl (hown'.alloc _) ⟨wr.heap.size,0,none⟩ 1 1 (bc [UInt8.ofNat y]) rfl rfl ?c2 (E7 _) hcap ?_)
   case c2=>
    intro j x hj
    match j,hj with
    | 0,hj=>simp [bc] at hj; subst hj; simp [Addr.add_lit]; omega
   intro w2 hown2 hgrow2
   have hb2 : Below base w w2:=(hbel.alloc (by omega) _).grown hgrow2 (by simp; omega) (by intro k hk; injection hk with hk; omega)
   rw [← Fa,List.append_assoc] at hown2
   clear hgrow2 hown' hown hbel
   go_wp2
   go_ret
   have e : l.length+pre.length+1=(l++(pre ++ [UInt8.ofNat y])).length:=by simp; omega
   rw [e] at hown2
   rw [HE.out]
   exact ⟨by simp; omega,hown2,hb2⟩
theorem ret_sliceW {ao : Option Addr} {n m cap : Nat} (h : n=m) : Ending.returned (.slice ao n cap) = .returned (.slice ao m cap):=by rw [h]
set_option maxRecDepth 20000 in
set_option maxHeartbeats 400000 in
theorem Kl (w : World) (v : Value) (l : List UInt8) (s : ByteArray) (h : Sl w v l) (hl : l.length+s.size≤281474976710646) :
  Calls Tryz.prog 86 #[v, .string s] w fun e w'=>∃ g m cap,e = .returned (.slice (some ⟨g,0,none⟩) m cap)∧m=(l++(Pl.enc (Pl.zz s.size)++s.data.toList)).length∧m≤cap ∧
   Sl w' (.slice (some ⟨g,0,none⟩) m cap) (l++(Pl.enc (Pl.zz s.size)++s.data.toList))∧Below w.heap.size w w':=by
 have HZ : Hid (Pl.zz (s.size : Int)<18446744073709551616):=Pl.zz_lt _ (by omega) (by omega)
 have hsd : s.data.toList.length=s.size:=by simp
 have HD:=Ab hsd
 clear hsd
 obtain ⟨i0,hi,hz0,hz1,hz2⟩:=info_parts Tryz.infoB
 go_enter Tryz.func86,Tryz.ntmps86
 go_wp2_with fail
 refine (fold_any _ _ (by omega) (by omega)).mono ?_
 rintro e w1 ⟨rfl,rfl⟩
 go_wp2_with fail
 refine (width_any _ _ (by omega) (by have:=HZ.out; omega)).mono ?_
 rintro e w1 ⟨k,rfl,hk1,hk2,hk3,rfl⟩
 have HK : Hid ((Pl.enc (Pl.zz s.size)).length≤k):=Pl.enc_fits _ k hk1 (by simpa using hk3)
 clear hk3
 go_wp2_with fail
 refine (withRoom_any _ v l _ h (by omega) (by omega)).mono ?_
 rintro e w2 ⟨cap,hcap,rfl,hown,hb,hs⟩
 have hfit : l.length+(Pl.enc (Pl.zz s.size)).length+s.size≤cap:=by have:=HK.out; omega
 have HF:=Ab hfit
 clear hfit hcap
 go_wp2_with fail
 refine (putBits_any _ _ _ _ l (Pl.zz s.size) HZ.out hb.size hown (by have:=HF.out; omega)).mono ?_
 rintro e w3 ⟨rfl,hown3,hb3⟩
 generalize hm : (l++Pl.enc (Pl.zz s.size)).length=m at hown3 ⊢
 have HM:=Ab hm
 clear hm hown
 have hg : w1.heap.size≤w1.heap.size:=Nat.le_refl _
 go_wp2_with (at_builtin; refine Qr _ rfl (.tmp 17) (.tmp 18) 68 9 rfl w1.heap.size 5 i0 Tryz.underlying68 Tryz.underlying9 hi hz1 w1.heap.size m cap _ rfl hown3 s rfl (by have:=HF.out; have:=HM.out; simp at this; omega) ?_; intro w4 hown4 hgrow4)
 go_ret
 have e : Lib.strCells s=bc s.data.toList:=rfl
 rw [e,← Fa,List.append_assoc] at hown4
 have e2 : m+s.size=(l++(Pl.enc (Pl.zz s.size)++s.data.toList)).length:=by rw [← HM.out,← List.append_assoc,List.length_append (bs:=s.data.toList),HD.out]
 have hfit : m+s.size≤cap:=by have:=HF.out; have:=HM.out; simp at this; omega
 have hb4:=(hb.trans hb3).grown hgrow4 (Nat.le_trans hb.size hb3.size) (by intro k hk; injection hk with hk; omega)
 rw [e2] at hown4 hfit
 exact ⟨_,_,_,ret_sliceW e2,rfl,hfit,Dh hown4,hb4⟩
end Go.Proofs.YtblniomnhpedjaaGreatDoor
namespace Go.Proofs.YtblniomnhpedjaaGreatDoor
open Go.RowKit
def tk (a : Nat) : Option (Nat × Nat)→Value
 | none=>.tuple #[.int .u64 0, .int .i64 0, .bool false]
 | some (u,c)=>.tuple #[.int .u64 u, .int .i64 ((a+c : Nat) : Int), .bool true]
theorem ret_tk {x y : Int} {a u c : Nat} (hx : x=(u : Int)) (hy : y=((a+c : Nat) : Int)) :
  Ending.returned (.tuple #[.int .u64 x, .int .i64 y, .bool true]) = .returned (tk a (some (u,c))):=by
 rw [hx,hy]; rfl
theorem or_sh (acc c k : Nat) (hk : k≤9) (hacc : acc<2 ^ (7 * k)) (hlt : c * 2 ^ (7 * k)<18446744073709551616) :
  bits .or .u64 (acc : Int) (IntKind.u64.wrap ((c : Int) * 2 ^ (7 * k)))=((acc+c * 2 ^ (7 * k) : Nat) : Int):=by
 have e0 : ((c : Int) * 2 ^ (7 * k))=((c * 2 ^ (7 * k) : Nat) : Int):=by rw [Int.natCast_mul,Int.natCast_pow]; rfl
 have h63 : (2 : Nat) ^ (7 * k)≤2 ^ 63:=Nat.pow_le_pow_right (by omega) (by omega)
 have e63 : (2 : Nat) ^ 63=9223372036854775808:=by decide
 have e1 : IntKind.u64.wrap ((c * 2 ^ (7 * k) : Nat) : Int)=((c * 2 ^ (7 * k) : Nat) : Int):=by
  generalize c * 2 ^ (7 * k)=t at *
  rw [IntKind.wrap_u64]; omega
 rw [e0,e1,u64_or_nat _ _ (by omega) hlt,Nat.or_comm,Nat.mul_comm c,← Nat.two_pow_add_eq_or_of_lt hacc c,Nat.add_comm]
theorem or_sh63 (acc c k : Nat) (hk : 7 * (k : Int)=63) (hacc : acc<2 ^ (7 * k)) (hc : c≤1) :
  bits .or .u64 (acc : Int) ((c : Int) * 9223372036854775808)=((acc+c * 2 ^ (7 * k) : Nat) : Int):=by
 obtain rfl : k=9:=by omega
 have e63 : (2 : Nat) ^ (7 * 9)=9223372036854775808:=by decide
 have h:=or_sh acc c 9 (by omega) hacc (by rw [e63]; omega)
 have e : IntKind.u64.wrap ((c : Int) * 2 ^ (7 * 9))=(c : Int) * 9223372036854775808:=by
  rw [IntKind.wrap_u64]; omega
 rw [e] at h
 exact h
theorem andNot128 (c : Nat) (h0 : 128≤c) (h1 : c<256) : IntKind.u64.wrap (bits .andNot .u8 (c : Int) 128)=((c - 128 : Nat) : Int):=by
 have h : ∀ a : Fin 256,a.val &&& (255 - 128)=a.val % 128:=by decide +kernel
 have e:=u8_andNot_nat c 128 h1 (by omega)
 have e2:=h ⟨c,h1⟩
 simp only at e2
 rw [show (128 : Int)=((128 : Nat) : Int) from rfl,e,e2,IntKind.wrap_u64]
 omega
theorem Lq (c k : Nat) (hk : k≤8) (hc : c<128) : c * 2 ^ (7 * k)<18446744073709551616:=by
 have : (2 : Nat) ^ (7 * k)≤2 ^ 56:=Nat.pow_le_pow_right (by omega) (by omega)
 have e3 : (2 : Nat) ^ 56=72057594037927936:=by decide
 rw [e3] at this
 have:=Nat.mul_le_mul (show c≤127 by omega) this
 omega
theorem acc_next (acc c k : Nat) (hacc : acc<2 ^ (7 * k)) (hc : c<128) : acc+c * 2 ^ (7 * k)<2 ^ (7 * (k+1)):=by
 rw [Pl.p7]
 have:=Nat.mul_le_mul_right (2 ^ (7 * k)) (show c≤127 by omega)
 omega
set_option maxHeartbeats 400000 in
theorem takeBits_neg (w : World) (v : Value) (at_ : Int) (h : at_<0) :
  Calls Tryz.prog 153 #[v, .int .i64 at_] w fun e w'=>e = .returned (.tuple #[.int .u64 0, .int .i64 0, .bool false])∧w'=w:=by
 go_enter Tryz.func153,Tryz.ntmps153
 go_wp2
 go_step3
 go_wp2
 rw [Exit.noGoto_ret]
 go_ret3
 exact ⟨rfl,rfl⟩
set_option maxRecDepth 20000 in
set_option maxHeartbeats 800000 in
theorem Pp (w : World) (v : Value) (l : List UInt8) (a : Nat) (h : Sl w v l) (ha : (a : Int)≤9223372036854775807) :
  Calls Tryz.prog 153 #[v, .int .i64 a] w fun e w'=>e = .returned (tk a (Pl.dec (l.drop a) 0 0))∧w'=w:=by
 obtain ⟨ao,cap,rfl,h1,h2,h3,h4⟩:=h
 go_enter Tryz.func153,Tryz.ntmps153
 go_wp2
 go_step3
 go_wp2
 go_step3
 go_wp2
 go_loop [7,8,9] (fun x sh i=>∃ (k acc : Nat),k≤9∧x = .int .u64 acc∧sh = .int .i64 ((7 * k : Nat) : Int)∧i = .int .i64 ((a+k : Nat) : Int)∧acc<2 ^ (7 * k)∧Pl.dec (l.drop a) 0 0=Pl.dec (l.drop (a+k)) k acc)
  (fun _ _ i=>l.length - (intOf i).toNat)
 case atStart=>exact ⟨0,0,by omega,rfl,rfl,rfl,by simp,rfl⟩
 case round=>
  obtain ⟨k,acc,hk,rfl,rfl,rfl,hacc,hd⟩:=hrel
  unfold maxLen at h2
  by_cases hlt : a+k<l.length
  ·obtain ⟨b,off,rfl,hb,hc⟩:=h4 (by rintro rfl; simp at hlt)
   have hcell:=hc (a+k) hlt
   have hdrop : l.drop (a+k)=l[a+k] :: l.drop (a+k+1):=List.drop_eq_getElem_cons hlt
   rw [hdrop] at hd
   have hc256:=UInt8.toNat_lt l[a+k]
   simp only [Pl.dec] at hd
   generalize (l[a+k]).toNat=c at *
   have HD:=Ab hd
   have HA:=Ab hacc
   clear hd hacc hdrop hc h4
   by_cases c1 : k=9∧1<c
   ·have hd' : Pl.dec (l.drop a) 0 0=none:=by rw [HD.out,if_pos c1]
    have HN:=Ab hd'
    clear hd' HD HA
    obtain ⟨rfl,c1⟩:=c1
    go_wp2
    all_goals (go_ret3; exact ⟨by rw [HN.out]; rfl,rfl⟩)
   ·by_cases c2 : 0<k∧c=0
    ·have hd' : Pl.dec (l.drop a) 0 0=none:=by rw [HD.out,if_neg c1,if_pos c2]
     have HN:=Ab hd'
     clear hd' HD HA c1
     obtain ⟨c2,rfl⟩:=c2
     go_wp2
     all_goals (go_ret3; exact ⟨by rw [HN.out]; rfl,rfl⟩)
    ·by_cases c3 : c<128
     ·have hd' : Pl.dec (l.drop a) 0 0=some (acc+c * 2 ^ (7 * k),k+1):=by rw [HD.out,if_neg c1,if_neg c2,if_pos c3]
      have HN:=Ab hd'
      clear hd' HD
      have hk9 : k=9→c≤1:=by omega
      go_wp2
      ·go_ret3
       rw [HN.out]
       exact ⟨ret_tk (or_sh63 acc c k (by assumption) HA.out (by omega)) (by omega),rfl⟩
      ·go_ret3
       rw [HN.out]
       exact ⟨ret_tk (or_sh acc c k hk HA.out (Lq c k (by omega) c3)) (by omega),rfl⟩
      ·go_ret3
       rw [HN.out]
       exact ⟨ret_tk (or_sh acc c k hk HA.out (Lq c k (by omega) c3)) (by omega),rfl⟩
     ·have hd' : Pl.dec (l.drop a) 0 0=Pl.dec (l.drop (a+k+1)) (k+1) (acc+(c - 128) * 2 ^ (7 * k)):=by rw [HD.out,if_neg c1,if_neg c2,if_neg c3]
      have HN:=Ab hd'
      clear hd' HD
      have HB : Hid (bits .or .u64 (acc : Int) (IntKind.u64.wrap (IntKind.u64.wrap (bits .andNot .u8 (c : Int) 128) * 2 ^ (7 * k)))=((acc+(c - 128) * 2 ^ (7 * k) : Nat) : Int)):=by
       rw [andNot128 c (by omega) (by omega)]
       exact or_sh acc (c - 128) k hk HA.out (Lq _ k (by omega) (by omega))
      go_wp2
      all_goals go_round
      all_goals first
       | (case rel=>exact ⟨k+1,_,by omega,congrArg (Value.int .u64) HB.out,by go_num,by go_num,acc_next acc (c - 128) k HA.out (by omega),HN.out⟩)
       | (case measure=>simp [intOf]; omega)
  ·have hd' : Pl.dec (l.drop a) 0 0=none:=by rw [hd,List.drop_eq_nil_of_le (by omega)]; rfl
   have HN:=Ab hd'
   clear hd' hd hacc h4
   go_wp2
   go_ret3
   exact ⟨by rw [HN.out]; rfl,rfl⟩
def Ci (l : List UInt8) (p : Int) : Option (Int × Nat):=if p<0 then none else (Pl.dec (l.drop p.toNat) 0 0).map fun x=>(Pl.unzz x.1,p.toNat+x.2)
theorem J9 {l : List UInt8} {p : Int} {n : Int} {q : Nat} (h : Ci l p=some (n,q)) :
  ∃ u c,0≤p∧Pl.dec (l.drop p.toNat) 0 0=some (u,c)∧n=Pl.unzz u∧q=p.toNat+c∧u<18446744073709551616∧p.toNat+c≤l.length:=by
 unfold Ci at h
 split at h
 ·cases h
 ·cases hd : Pl.dec (l.drop p.toNat) 0 0 with
  | none=>rw [hd] at h; cases h
  | some x=>
   rw [hd] at h
   simp only [Option.map_some,Option.some.injEq,Prod.mk.injEq] at h
   obtain ⟨u,c⟩:=x
   have:=Pl.dec_take hd
   have h2:=this.2.1
   have h3:=(Pl.enc_length u).1
   have h4:=this.2.2.2
   rw [List.length_drop] at h2
   exact ⟨u,c,by omega,rfl,h.1.symm,h.2.symm,this.1,by omega⟩
theorem Qi (w : World) (v : Value) (l : List UInt8) (p : Int) (h : Sl w v l) (hp : p≤9223372036854775807) (hn : Ci l p=none) :
  Calls Tryz.prog 153 #[v, .int .i64 p] w fun e w'=>e = .returned (.tuple #[.int .u64 0, .int .i64 0, .bool false])∧w'=w:=by
 by_cases h0 : p<0
 ·exact takeBits_neg w v p h0
 ·obtain ⟨a,rfl⟩:=Int.eq_ofNat_of_zero_le (show 0≤p by omega)
  have hd : Pl.dec (l.drop a) 0 0=none:=by
   unfold Ci at hn
   rw [if_neg h0] at hn
   simpa using hn
  have:=Pp w v l a h hp
  rw [hd] at this
  exact this
theorem Qn (w : World) (v : Value) (l : List UInt8) (p : Int) (u c q : Nat) (h : Sl w v l) (h0 : 0≤p) (hp : p≤9223372036854775807) (hd : Pl.dec (l.drop p.toNat) 0 0=some (u,c)) (hq : q=p.toNat+c) :
  Calls Tryz.prog 153 #[v, .int .i64 p] w fun e w'=>e = .returned (.tuple #[.int .u64 u, .int .i64 (q : Int), .bool true])∧w'=w:=by
 subst hq
 obtain ⟨a,rfl⟩:=Int.eq_ofNat_of_zero_le h0
 have:=Pp w v l a h hp
 simp only [Int.toNat_natCast] at hd ⊢
 rw [hd] at this
 exact this
set_option maxHeartbeats 400000 in
theorem Mm (w : World) (v : Value) (l : List UInt8) (p : Int) (h : Sl w v l) (hp : p≤9223372036854775807) (hn : Ci l p=none) :
  Calls Tryz.prog 129 #[v, .int .i64 p] w fun e w'=>e = .returned (.tuple #[.int .i64 0, .int .i64 0, .bool false])∧w'=w:=by
 have HN:=Ab hn
 clear hn
 go_enter Tryz.func129,Tryz.ntmps129
 go_wp2_with fail
 refine (Qi _ _ l p h hp HN.out).mono ?_
 rintro e w1 ⟨rfl,rfl⟩
 go_wp2_with fail
 refine (P0 0 _ (by omega)).mono ?_
 rintro e w1 ⟨rfl,rfl⟩
 go_wp2
 go_ret3
 exact ⟨rfl,rfl⟩
set_option maxHeartbeats 400000 in
theorem Gn (w : World) (v : Value) (l : List UInt8) (p n : Int) (q : Nat) (h : Sl w v l) (hp : p≤9223372036854775807) (hn : Ci l p=some (n,q)) :
  Calls Tryz.prog 129 #[v, .int .i64 p] w fun e w'=>e = .returned (.tuple #[.int .i64 n, .int .i64 (q : Int), .bool true])∧w'=w:=by
 obtain ⟨u,c,h0,hd,rfl,hq,hu,_⟩:=J9 hn
 have HD:=Ab hd
 have HQ:=Ab hq
 clear hq
 have HU:=Ab hu
 clear hn hd hu
 go_enter Tryz.func129,Tryz.ntmps129
 go_wp2_with fail
 refine (Qn _ _ l p u c q h h0 hp HD.out HQ.out).mono ?_
 rintro e w1 ⟨rfl,rfl⟩
 go_wp2_with fail
 refine (P0 u _ HU.out).mono ?_
 rintro e w1 ⟨rfl,rfl⟩
 go_wp2
 go_ret3
 exact ⟨rfl,rfl⟩
end Go.Proofs.YtblniomnhpedjaaGreatDoor
namespace Go.Proofs.YtblniomnhpedjaaGreatDoor
open Go.RowKit
def Ch (l : List UInt8) (p most : Int) : Option (List UInt8 × Nat):=
 match Ci l p with
 | none=>none
 | some (n,q)=>if n<0∨most<n∨(l.length : Int) - q<n then none else some ((l.drop q).take n.toNat,q+n.toNat)
set_option maxRecDepth 20000 in
set_option maxHeartbeats 400000 in
theorem M3 (w : World) (v : Value) (l : List UInt8) (p most : Int) (h : Sl w v l) (hp : p≤9223372036854775807) (hn : Ch l p most=none) :
  Calls Tryz.prog 98 #[v, .int .i64 p, .int .i64 most] w fun e w'=>e = .returned (.tuple #[.string ⟨#[]⟩, .int .i64 0, .bool false])∧w'=w:=by
 have h':=h
 obtain ⟨ao,cap,rfl,h1,h2,h3,h4⟩:=h'
 clear h4 h3
 unfold maxLen at h2
 cases ht : Ci l p with
 | none=>
  have HT:=Ab ht
  clear ht hn
  go_enter Tryz.func98,Tryz.ntmps98
  go_wp2_with fail
  refine (Mm _ _ l p h hp HT.out).mono ?_
  rintro e w1 ⟨rfl,rfl⟩
  clear h
  go_wp2
  go_ret3
  exact ⟨rfl,rfl⟩
 | some x=>
  obtain ⟨n,q⟩:=x
  obtain ⟨u,c,h0,hd,hnu,hq,hu,hql⟩:=J9 ht
  have hc : n<0∨most<n∨(l.length : Int) - q<n:=by
   unfold Ch at hn
   rw [ht] at hn
   simp only at hn
   split at hn
   ·assumption
   ·cases hn
  have hq1 : (q : Int)≤(l.length : Int):=by omega
  have HT:=Ab ht
  clear hn hd hnu hq hu hql
  go_enter Tryz.func98,Tryz.ntmps98
  go_wp2_with fail
  refine (Gn _ _ l p n q h hp HT.out).mono ?_
  rintro e w1 ⟨rfl,rfl⟩
  clear h
  go_wp2
  all_goals (go_ret3; exact ⟨rfl,rfl⟩)
theorem G9 (w : World) (v : Value) (l : List UInt8) (h : Sl w v l) : (convert 68 9 v).run Tryz.prog w = .ok (.string ⟨l.toArray⟩) w:=by
 obtain ⟨ao,cap,rfl,h1,h2,h3,h4⟩:=h
 by_cases hl : l = []
 ·subst hl
  cases ao with
  | none=>
   rw [run_convert_bytes_string w 68 9 5 none _ cap Tryz.underlying68 Tryz.underlying5 Tryz.underlying9]
   rfl
  | some a=>exact run_convert_bytes_back w 68 9 5 a cap [] Tryz.underlying68 Tryz.underlying5 Tryz.underlying9 (fun j hj=>by simp at hj)
 ·obtain ⟨b,off,rfl,hb,hc⟩:=h4 hl
  refine run_convert_bytes_back w 68 9 5 ⟨b,off,none⟩ cap l Tryz.underlying68 Tryz.underlying5 Tryz.underlying9 (fun j hj=>?_)
  rw [Addr.add_lit]
  exact hc j hj
theorem Oi (w : World) {ops : Array Oper} {rest : List Oper} {o : Oper} {a : Act} {Q : Exit→Act→World→Prop} (hg : o.guard=none) (x : Operand) (hop : o.op=Op.convert 68 9 x)
  {v : Value} {l : List UInt8} (h : Sl w v l) (hx : a.eval x=v) (hK : wpList Tryz.prog ops Q rest (a.put o.dst (.string ⟨l.toArray⟩)) w) : wpList Tryz.prog ops Q (o :: rest) a w:=by
 refine wpList_plain hg fun K hK'=>?_
 have hr:=G9 w v l h
 unfold Oper.wp
 simp [execOp,hop,hx,hr,Result.andThen]
 exact hK' _ _ hK
theorem Sl.cut {w : World} {ao : Option Addr} {n cap : Nat} {l : List UInt8} (h : Sl w (.slice ao n cap) l) (i j : Nat) (hij : i≤j) (hj : j≤l.length) :
  ∀ ao',(i<j→∀ b off,ao=Option.some ⟨b,off,none⟩→ao'=Option.some ⟨b,off+i,none⟩)→(ao'=none→cap - i=0)→Sl w (.slice ao' (j - i) (cap - i)) ((l.drop i).take (j - i)):=by
 intro ao' ha' hn'
 obtain ⟨ao0,cap0,hv,h1,h2,h3,h4⟩:=h
 injection hv with e1 e2 e3
 subst e1 e2 e3
 have hlen : ((l.drop i).take (j - i)).length=j - i:=by simp; omega
 refine ⟨ao',cap - i,by rw [hlen],by omega,by omega,hn',fun hne=>?_⟩
 have hlt : i<j:=by
  rcases Nat.lt_or_ge i j with h | h
  ·exact h
  ·exfalso; apply hne; rw [show j - i=0 by omega]; simp
 obtain ⟨b,off,ha,hb,hc⟩:=h4 (by rintro rfl; simp at hj; omega)
 refine ⟨b,off+i,ha' hlt b off ha,hb,fun k hk=>?_⟩
 rw [hlen] at hk
 have:=hc (i+k) (by omega)
 rw [Nat.add_assoc,this]
 simp
theorem Sl.cutEnd {w : World} {ao : Option Addr} {n r m : Nat} {l : List UInt8} (hm : r+m≤l.length) (h : Sl w (.slice ao n r) l) : Sl w (.slice ao m 0) ((l.drop r).take m):=by
 obtain ⟨ao0,cap0,hv,h1,h2,h3,h4⟩:=h
 injection hv with e1 e2 e3
 obtain rfl : m=0:=by omega
 rw [List.take_zero]
 exact ⟨ao,0,rfl,by simp,by simp,fun _=>rfl,fun hl=>absurd rfl hl⟩
theorem Sl.cutAt {w : World} {ao : Option Addr} {n cap r m : Nat} {l : List UInt8} (hm : r+m≤l.length) (hr : r<cap) (h : Sl w (.slice ao n cap) l) :
  Sl w (.slice (Option.map (fun x=>x.add r) ao) m (cap - r)) ((l.drop r).take m):=by
 have:=h.cut r (r+m) (by omega) hm (Option.map (fun x=>x.add r) ao) (fun _ b off ha=>by rw [ha]; simp [Addr.add_lit]) (fun hn=>by
  obtain ⟨ao0,cap0,hv,h1,h2,h3,h4⟩:=h
  injection hv with e1 e2 e3
  subst e1 e3
  have:=h3 (by simpa using hn)
  omega)
 rw [show r+m - r=m from by omega] at this
 exact this
set_option maxRecDepth 20000 in
set_option maxHeartbeats 400000 in
theorem M4 (w : World) (v : Value) (l : List UInt8) (p most : Int) (t : List UInt8) (q : Nat) (h : Sl w v l) (hp : p≤9223372036854775807) (hn : Ch l p most=some (t,q)) :
  Calls Tryz.prog 98 #[v, .int .i64 p, .int .i64 most] w fun e w'=>e = .returned (.tuple #[.string ⟨t.toArray⟩, .int .i64 (q : Int), .bool true])∧w'=w:=by
 have h':=h
 obtain ⟨ao,cap,rfl,h1,h2,h3,h4⟩:=h'
 clear h4 h3
 unfold maxLen at h2
 cases ht : Ci l p with
 | none=>unfold Ch at hn; rw [ht] at hn; cases hn
 | some x=>
  obtain ⟨n,r⟩:=x
  obtain ⟨u,c,h0,hd,hnu,hq,hu,hql⟩:=J9 ht
  unfold Ch at hn
  rw [ht] at hn
  simp only at hn
  split at hn
  ·cases hn
  rename_i hc
  simp only [Option.some.injEq,Prod.mk.injEq] at hn
  obtain ⟨ht1,ht2⟩:=hn
  have c1 : 0≤n:=by omega
  have c2 : n≤most:=by omega
  have c3 : n≤(l.length : Int) - r:=by omega
  have hq1 : (r : Int)≤(l.length : Int):=by omega
  have HT:=Ab ht
  have H1:=Ab ht1
  have H2:=Ab ht2
  obtain ⟨m,rfl⟩:=Int.eq_ofNat_of_zero_le c1
  clear hc ht hd hnu hq hu hql ht1 ht2
  go_enter Tryz.func98,Tryz.ntmps98
  go_wp2_with fail
  refine (Gn _ _ l p m r h hp HT.out).mono ?_
  rintro e w1 ⟨rfl,rfl⟩
  rw [show (m : Int).toNat=m from rfl] at H1 H2
  rcases Nat.lt_or_ge r cap with hrc | hrc
  ·have hs:=Sl.cutAt (show r+m≤l.length by omega) hrc h
   clear h
   go_wp2_with (refine Oi _ rfl (.tmp 45) rfl hs (by first | rfl | (simp [go_sem]; done)) ?_)
   go_ret3
   rw [← H1.out,← H2.out]
   exact ⟨rfl,rfl⟩
  ·obtain rfl : cap=r:=by omega
   have hs:=Sl.cutEnd (show cap+m≤l.length by omega) h
   clear h
   go_wp2_with (refine Oi _ rfl (.tmp 45) rfl hs (by first | rfl | (simp [go_sem]; done)) ?_)
   go_ret3
   rw [← H1.out,← H2.out]
   exact ⟨rfl,rfl⟩
end Go.Proofs.YtblniomnhpedjaaGreatDoor
namespace Go.Proofs.YtblniomnhpedjaaGreatDoor
open Go.RowKit
def num (n : Int) : List UInt8:=Pl.enc (Pl.zz n)
def txt (t : List UInt8) : List UInt8:=num t.length++t
theorem He (n : Int) : 1≤(num n).length∧(num n).length≤10:=Pl.enc_length _
theorem Me (p r : List UInt8) (n : Int) (h0 : -9223372036854775808≤n) (h1 : n≤9223372036854775807) :
  Ci (p++(num n++r)) p.length=some (n,p.length+(num n).length):=by
 unfold Ci num
 rw [if_neg (by omega),Int.toNat_natCast,List.drop_left,Pl.dec_enc _ r (Pl.zz_lt n h0 h1)]
 simp [Pl.unzz_zz]
theorem Hp (p r t : List UInt8) (most : Int) (hm : (t.length : Int)≤most) (h1 : (t.length : Int)≤9223372036854775807) :
  Ch (p++(txt t++r)) p.length most=some (t,p.length+(txt t).length):=by
 unfold Ch txt
 rw [List.append_assoc,Me p (t++r) t.length (by omega) h1]
 simp only
 rw [if_neg (by simp; omega)]
 have e : p++(num t.length++(t++r))=(p++num t.length)++(t++r):=by simp
 have e2 : p.length+(num t.length).length=(p++num t.length).length:=by simp
 rw [e,e2,List.drop_left,Int.toNat_natCast,List.take_left]
 simp; omega
theorem Kk {l : List UInt8} {p n : Int} {q : Nat} (h : Ci l p=some (n,q)) :
  0≤p∧p.toNat≤q∧q≤l.length∧(l.drop p.toNat).take (q - p.toNat)=num n∧-9223372036854775808≤n∧n≤9223372036854775807∧q=p.toNat+(num n).length:=by
 obtain ⟨u,c,h0,hd,rfl,rfl,hu,hc⟩:=J9 h
 obtain ⟨_,h2,h3,h4⟩:=Pl.dec_take hd
 have hb:=Pl.unzz_bd u hu
 have e : num (Pl.unzz u)=Pl.enc u:=by unfold num; rw [Pl.zz_unzz]
 rw [e]
 refine ⟨h0,by omega,hc,?_,hb.1,hb.2,by omega⟩
 rw [show p.toNat+c - p.toNat=c from by omega]
 exact h3
theorem Ph {l t : List UInt8} {p most : Int} {q : Nat} (h : Ch l p most=some (t,q)) :
  0≤p∧p.toNat≤q∧q≤l.length∧(l.drop p.toNat).take (q - p.toNat)=txt t∧(t.length : Int)≤most:=by
 unfold Ch at h
 cases ht : Ci l p with
 | none=>rw [ht] at h; cases h
 | some x=>
  obtain ⟨n,r⟩:=x
  rw [ht] at h
  simp only at h
  split at h
  ·cases h
  rename_i hc
  simp only [Option.some.injEq,Prod.mk.injEq] at h
  obtain ⟨rfl,rfl⟩:=h
  obtain ⟨h0,h1,h2,h3,h4,h5,h6⟩:=Kk ht
  obtain ⟨k,rfl⟩:=Int.eq_ofNat_of_zero_le (show 0≤n by omega)
  have hl : ((l.drop r).take k).length=k:=by simp; omega
  refine ⟨h0,by omega,by omega,?_,by simp only [Int.toNat_natCast]; omega⟩
  unfold txt
  simp only [Int.toNat_natCast]
  rw [hl]
  rw [show r+k - p.toNat=(r - p.toNat)+k from by omega,List.take_add,h3,List.drop_drop,show p.toNat+(r - p.toNat)=r from by omega]
theorem Oe (n : Int) (j : Nat) (hj : j<(num n).length) (h0 : -9223372036854775808≤n) (h1 : n≤9223372036854775807) : Ci ((num n).take j) 0=none:=by
 unfold Ci
 rw [if_neg (by omega)]
 have:=Pl.dec_cut (Pl.zz_lt n h0 h1) hj
 unfold num
 simp [this]
theorem takeT_short (t : List UInt8) (j : Nat) (most : Int) (hj : j<(txt t).length) (h1 : (t.length : Int)≤9223372036854775807) : Ch ((txt t).take j) 0 most=none:=by
 by_cases hlt : j<(num t.length).length
 ·have e : (txt t).take j=(num t.length).take j:=by
   unfold txt; rw [List.take_append_of_le_length (by omega)]
  unfold Ch
  rw [e,Oe _ j hlt (by omega) h1]
 ·have e : (txt t).take j=num t.length++t.take (j - (num t.length).length):=by
   unfold txt; rw [List.take_append,List.take_of_length_le (by omega)]
  have hi:=Me [] (t.take (j - (num t.length).length)) t.length (by omega) h1
  simp only [List.nil_append,List.length_nil,Nat.zero_add] at hi
  unfold Ch
  rw [e,show ((0 : Int))=((0 : Nat) : Int) from rfl,hi]
  simp only
  rw [if_pos]
  right; right
  unfold txt at hj
  simp at hj ⊢
  omega
end Go.Proofs.YtblniomnhpedjaaGreatDoor
