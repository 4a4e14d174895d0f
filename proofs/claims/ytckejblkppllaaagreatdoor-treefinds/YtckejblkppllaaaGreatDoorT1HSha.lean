/-
  Texts joined: HSha, HRot, HMem.
-/
import Derived.Test.YtckejblkppllaaaGreatDoorT0WPlain
import Derived.WalkKit
import Derived.Test.YtckejblkppllaaaGreatDoorRows
import Derived.Lib.Tables
import Derived.Lib.BitFns
import Derived.Deep.MidRow
import Derived.Deep.WholeRow
import Derived.BigQuiet
import Derived.Deep.RegionWith
import Derived.WalkSmall
namespace Go.Proofs.YtckejblkppllaaaGreatDoor
def Bk (x n : UInt32) : UInt32:=x <<< (32 - n) ||| x >>> n
def kL : List UInt32:=[
 0x428a2f98,0x71374491,0xb5c0fbcf,0xe9b5dba5,0x3956c25b,0x59f111f1,0x923f82a4,0xab1c5ed5,
 0xd807aa98,0x12835b01,0x243185be,0x550c7dc3,0x72be5d74,0x80deb1fe,0x9bdc06a7,0xc19bf174,
 0xe49b69c1,0xefbe4786,0x0fc19dc6,0x240ca1cc,0x2de92c6f,0x4a7484aa,0x5cb0a9dc,0x76f988da,
 0x983e5152,0xa831c66d,0xb00327c8,0xbf597fc7,0xc6e00bf3,0xd5a79147,0x06ca6351,0x14292967,
 0x27b70a85,0x2e1b2138,0x4d2c6dfc,0x53380d13,0x650a7354,0x766a0abb,0x81c2c92e,0x92722c85,
 0xa2bfe8a1,0xa81a664b,0xc24b8b70,0xc76c51a3,0xd192e819,0xd6990624,0xf40e3585,0x106aa070,
 0x19a4c116,0x1e376c08,0x2748774c,0x34b0bcb5,0x391c0cb3,0x4ed8aa4a,0x5b9cca4f,0x682e6ff3,
 0x748f82ee,0x78a5636f,0x84c87814,0x8cc70208,0x90befffa,0xa4506ceb,0xbef9a3f7,0xc67178f2]
structure St where
 a : UInt32
 b : UInt32
 c : UInt32
 d : UInt32
 e : UInt32
 f : UInt32
 g : UInt32
 h : UInt32
def st0 : St:=⟨0x6a09e667,0xbb67ae85,0x3c6ef372,0xa54ff53a,0x510e527f,0x9b05688c,0x1f83d9ab,0x5be0cd19⟩
def St.list (s : St) : List UInt32:=[s.a,s.b,s.c,s.d,s.e,s.f,s.g,s.h]
def St.add (s t : St) : St:=⟨s.a+t.a,s.b+t.b,s.c+t.c,s.d+t.d,s.e+t.e,s.f+t.f,s.g+t.g,s.h+t.h⟩
def t1 (s : St) (k w : UInt32) : UInt32:=s.h+(Bk s.e 6 ^^^ Bk s.e 11 ^^^ Bk s.e 25)+(s.e &&& s.f ^^^ (4294967295 ^^^ s.e) &&& s.g)+k+w
def t2 (s : St) : UInt32:=(Bk s.a 2 ^^^ Bk s.a 13 ^^^ Bk s.a 22)+(s.a &&& s.b ^^^ s.a &&& s.c ^^^ s.b &&& s.c)
def rd (s : St) (k w : UInt32) : St:=⟨t1 s k w+t2 s,s.a,s.b,s.c,s.d+t1 s k w,s.e,s.f,s.g⟩
def rds (W : List UInt32) (s : St) : Nat→St
 | 0=>s
 | t+1=>rd (rds W s t) (kL.getD t 0) (W.getD t 0)
def s0 (x : UInt32) : UInt32:=Bk x 7 ^^^ Bk x 18 ^^^ x >>> 3
def s1 (y : UInt32) : UInt32:=Bk y 17 ^^^ Bk y 19 ^^^ y >>> 10
def next (l : List UInt32) : UInt32:=s1 (l.getD (l.length - 2) 0)+l.getD (l.length - 7) 0+s0 (l.getD (l.length - 15) 0)+l.getD (l.length - 16) 0
def ext (l : List UInt32) : Nat→List UInt32
 | 0=>l
 | n+1=>ext l n ++ [next (ext l n)]
def word (a b c d : UInt8) : UInt32:=a.toUInt32 <<< 24 ||| b.toUInt32 <<< 16 ||| c.toUInt32 <<< 8 ||| d.toUInt32
def wordAt (l : List UInt8) (t : Nat) : UInt32:=word (l.getD (4 * t) 0) (l.getD (4 * t+1) 0) (l.getD (4 * t+2) 0) (l.getD (4 * t+3) 0)
def Aw (l : List UInt8) : List UInt32:=(List.range 16).map (wordAt l)
def comp (s : St) (l : List UInt8) : St:=s.add (rds (ext (Aw l) 48) s 64)
def mix (s : St) (l : List UInt8) : Nat→St
 | 0=>s
 | n+1=>comp (mix s l n) ((l.drop (64 * n)).take 64)
def be4 (n : UInt32) : List UInt8:=[(n >>> 24).toUInt8,(n >>> 16).toUInt8,(n >>> 8).toUInt8,n.toUInt8]
def Df (size : Nat) : List UInt8:=128 :: List.replicate ((119 - size % 64) % 64) 0++(be4 (UInt32.ofNat (size * 8 % 18446744073709551616 / 4294967296))++be4 (UInt32.ofNat (size * 8 % 18446744073709551616)))
def out (s : St) : List UInt8:=s.list.flatMap be4
def sha (l : List UInt8) : List UInt8:=out (mix st0 (l++Df l.length) ((l++Df l.length).length / 64))
def dig (n : Nat) : UInt8:=[48,49,50,51,52,53,54,55,56,57,97,98,99,100,101,102].getD n 0
def hex (l : List UInt8) : List UInt8:=l.flatMap fun c=>[dig (c.toNat / 16),dig (c.toNat % 16)]
end Go.Proofs.YtckejblkppllaaaGreatDoor
namespace Go.Proofs.YtckejblkppllaaaGreatDoor
open Go.RowKit
def u (x : UInt32) : Int:=(x.toNat : Int)
theorem u_lt (x : UInt32) : x.toNat<4294967296:=x.toNat_lt
theorem u_or (x y : UInt32) : bits .or .u32 (u x) (u y)=u (x ||| y):=by
 unfold u
 rw [u32_or_nat _ _ (u_lt x) (u_lt y),UInt32.toNat_or]
theorem u_xor (x y : UInt32) : bits .xor .u32 (u x) (u y)=u (x ^^^ y):=by
 unfold u
 rw [u32_xor_nat _ _ (u_lt x) (u_lt y),UInt32.toNat_xor]
theorem u_and (x y : UInt32) : bits .and .u32 (u x) (u y)=u (x &&& y):=by
 unfold u
 rw [u32_and_nat _ _ (u_lt x) (u_lt y),UInt32.toNat_and]
theorem u_not (x : UInt32) : bits .xor .u32 IntKind.u32.max (u x)=u (4294967295 ^^^ x):=by
 have:=u_xor 4294967295 x
 rw [← this]
 rfl
theorem Fc (x y : UInt32) : (u x+u y) % 4294967296=u (x+y):=by
 unfold u
 rw [UInt32.toNat_add]
 omega
theorem u_shl (x n : UInt32) (k : Nat) (hk : n.toNat=k) (h : k<32) : u x * 2 ^ k % 4294967296=u (x <<< n):=by
 unfold u
 rw [UInt32.toNat_shiftLeft,hk,Nat.mod_eq_of_lt h,Nat.shiftLeft_eq,show ((2 : Int) ^ k)=((2 ^ k : Nat) : Int) from by simp,← Int.natCast_mul]
 omega
theorem u_shr (x n : UInt32) (k : Nat) (hk : n.toNat=k) (h : k<32) : u x / 2 ^ k=u (x >>> n):=by
 unfold u
 rw [UInt32.toNat_shiftRight,hk,Nat.mod_eq_of_lt h,Nat.shiftRight_eq_div_pow,show ((2 : Int) ^ k)=((2 ^ k : Nat) : Int) from by simp,← Int.natCast_ediv]
theorem u32_sub (n : UInt32) (k : Nat) (hk : n.toNat=k) (h : k<32) : (32 - n).toNat=32 - k:=by
 rw [UInt32.toNat_sub,hk]
 simp
 omega
theorem u_rotr (x n : UInt32) (k : Nat) (hk : n.toNat=k) (h0 : 0<k) (h : k<32) : bits .or .u32 (u x * 2 ^ (32 - k) % 4294967296) (u x / 2 ^ k)=u (Bk x n):=by
 rw [u_shl x (32 - n) (32 - k) (u32_sub n k hk h) (by omega),u_shr x n k hk h,u_or]
 rfl
theorem u_rotr' (x n : UInt32) (k : Nat) (hk : n.toNat=k) (h0 : 0<k) (h : k<32) : bits .or .u32 (u x / 2 ^ k) (u x * 2 ^ (32 - k) % 4294967296)=u (Bk x n):=by
 rw [u_shl x (32 - n) (32 - k) (u32_sub n k hk h) (by omega),u_shr x n k hk h,u_or,UInt32.or_comm]
 rfl
theorem and31 : ∀ k : Fin 32,0<k.val→bits .and .u64 (IntKind.u64.wrap (-(k.val : Int))) 31=((32 - k.val : Nat) : Int):=by decide +kernel
theorem ret_int {k : IntKind} {a b : Int} (h : a=b) : Ending.returned (.int k a) = .returned (.int k b):=by rw [h]
theorem rotl_any (w : World) (x n : UInt32) (k : Nat) (hk : n.toNat=k) (h0 : 0<k) (h1 : k<32) :
  Calls Tryz.prog 290 #[.int .u32 (u x), .int .i64 (-(k : Int))] w fun e w'=>e = .returned (.int .u32 (u (Bk x n)))∧w'=w:=by
 have ha:=and31 ⟨k,h1⟩ h0
 simp only at ha
 have hr:=u_rotr x n k hk h0 h1
 obtain ⟨j,hj⟩ : ∃ j,j=32 - k:=⟨_,rfl⟩
 rw [← hj] at hr ha
 have hj1 : j<32:=by omega
 have hj0 : 0<j:=by omega
 have HJ:=Ac hj
 have HR:=Ac hr
 have HK:=Ac hk
 clear hj hr hk
 go_enter Tryz.func290,Tryz.ntmps290
 go_wp2
 go_ret
 exact ⟨ret_int (by rw [show 32 - j=k from by have:=HJ.out; omega]; exact HR.out),rfl⟩
theorem Fp (w : World) (x n : UInt32) (i : Int) (hi : i=n.toNat) (h0 : 0<i) (h1 : i<32) :
  Calls Tryz.prog 197 #[.int .u32 (u x), .int .u32 i] w fun e w'=>e = .returned (.int .u32 (u (Bk x n)))∧w'=w:=by
 obtain ⟨k,rfl⟩:=Int.eq_ofNat_of_zero_le (show 0≤i by omega)
 have hr:=u_rotr' x n k (by omega) (by omega) (by omega)
 have HR:=Ac hr
 clear hr hi
 go_enter Tryz.func197,Tryz.ntmps197
 go_wp2
 go_ret
 exact ⟨ret_int HR.out,rfl⟩
theorem Fl (w : World) (x n : UInt32) (i : Int) (hi : i=n.toNat) (h0 : 0<i) (h1 : i<32) :
  Calls Tryz.prog 289 #[.int .u32 (u x), .int .i64 i] w fun e w'=>e = .returned (.int .u32 (u (Bk x n)))∧w'=w:=by
 obtain ⟨k,rfl⟩:=Int.eq_ofNat_of_zero_le (show 0≤i by omega)
 have HI : Hid (n.toNat=k):=by show _=_; omega
 clear hi
 go_enter Tryz.func289,Tryz.ntmps289
 go_wp2_with fail
 refine (rotl_any _ x n k HI.out (by omega) (by omega)).mono ?_
 rintro e w1 ⟨rfl,rfl⟩
 go_wp2
 go_ret
 exact ⟨rfl,rfl⟩
theorem pr6 (w : World) (x : UInt32) : Calls Tryz.prog 289 #[.int .u32 (u x), .int .i64 6] w fun e w'=>e = .returned (.int .u32 (u (Bk x 6)))∧w'=w:=Fl w x 6 6 (by decide) (by decide) (by decide)
theorem rr6 (w : World) (x : UInt32) : Calls Tryz.prog 197 #[.int .u32 (u x), .int .u32 6] w fun e w'=>e = .returned (.int .u32 (u (Bk x 6)))∧w'=w:=Fp w x 6 6 (by decide) (by decide) (by decide)
theorem pr11 (w : World) (x : UInt32) : Calls Tryz.prog 289 #[.int .u32 (u x), .int .i64 11] w fun e w'=>e = .returned (.int .u32 (u (Bk x 11)))∧w'=w:=Fl w x 11 11 (by decide) (by decide) (by decide)
theorem rr11 (w : World) (x : UInt32) : Calls Tryz.prog 197 #[.int .u32 (u x), .int .u32 11] w fun e w'=>e = .returned (.int .u32 (u (Bk x 11)))∧w'=w:=Fp w x 11 11 (by decide) (by decide) (by decide)
theorem pr25 (w : World) (x : UInt32) : Calls Tryz.prog 289 #[.int .u32 (u x), .int .i64 25] w fun e w'=>e = .returned (.int .u32 (u (Bk x 25)))∧w'=w:=Fl w x 25 25 (by decide) (by decide) (by decide)
theorem rr25 (w : World) (x : UInt32) : Calls Tryz.prog 197 #[.int .u32 (u x), .int .u32 25] w fun e w'=>e = .returned (.int .u32 (u (Bk x 25)))∧w'=w:=Fp w x 25 25 (by decide) (by decide) (by decide)
theorem pr2 (w : World) (x : UInt32) : Calls Tryz.prog 289 #[.int .u32 (u x), .int .i64 2] w fun e w'=>e = .returned (.int .u32 (u (Bk x 2)))∧w'=w:=Fl w x 2 2 (by decide) (by decide) (by decide)
theorem rr2 (w : World) (x : UInt32) : Calls Tryz.prog 197 #[.int .u32 (u x), .int .u32 2] w fun e w'=>e = .returned (.int .u32 (u (Bk x 2)))∧w'=w:=Fp w x 2 2 (by decide) (by decide) (by decide)
theorem pr13 (w : World) (x : UInt32) : Calls Tryz.prog 289 #[.int .u32 (u x), .int .i64 13] w fun e w'=>e = .returned (.int .u32 (u (Bk x 13)))∧w'=w:=Fl w x 13 13 (by decide) (by decide) (by decide)
theorem rr13 (w : World) (x : UInt32) : Calls Tryz.prog 197 #[.int .u32 (u x), .int .u32 13] w fun e w'=>e = .returned (.int .u32 (u (Bk x 13)))∧w'=w:=Fp w x 13 13 (by decide) (by decide) (by decide)
theorem pr22 (w : World) (x : UInt32) : Calls Tryz.prog 289 #[.int .u32 (u x), .int .i64 22] w fun e w'=>e = .returned (.int .u32 (u (Bk x 22)))∧w'=w:=Fl w x 22 22 (by decide) (by decide) (by decide)
theorem rr22 (w : World) (x : UInt32) : Calls Tryz.prog 197 #[.int .u32 (u x), .int .u32 22] w fun e w'=>e = .returned (.int .u32 (u (Bk x 22)))∧w'=w:=Fp w x 22 22 (by decide) (by decide) (by decide)
theorem pr7 (w : World) (x : UInt32) : Calls Tryz.prog 289 #[.int .u32 (u x), .int .i64 7] w fun e w'=>e = .returned (.int .u32 (u (Bk x 7)))∧w'=w:=Fl w x 7 7 (by decide) (by decide) (by decide)
theorem rr7 (w : World) (x : UInt32) : Calls Tryz.prog 197 #[.int .u32 (u x), .int .u32 7] w fun e w'=>e = .returned (.int .u32 (u (Bk x 7)))∧w'=w:=Fp w x 7 7 (by decide) (by decide) (by decide)
theorem pr18 (w : World) (x : UInt32) : Calls Tryz.prog 289 #[.int .u32 (u x), .int .i64 18] w fun e w'=>e = .returned (.int .u32 (u (Bk x 18)))∧w'=w:=Fl w x 18 18 (by decide) (by decide) (by decide)
theorem rr18 (w : World) (x : UInt32) : Calls Tryz.prog 197 #[.int .u32 (u x), .int .u32 18] w fun e w'=>e = .returned (.int .u32 (u (Bk x 18)))∧w'=w:=Fp w x 18 18 (by decide) (by decide) (by decide)
theorem pr17 (w : World) (x : UInt32) : Calls Tryz.prog 289 #[.int .u32 (u x), .int .i64 17] w fun e w'=>e = .returned (.int .u32 (u (Bk x 17)))∧w'=w:=Fl w x 17 17 (by decide) (by decide) (by decide)
theorem rr17 (w : World) (x : UInt32) : Calls Tryz.prog 197 #[.int .u32 (u x), .int .u32 17] w fun e w'=>e = .returned (.int .u32 (u (Bk x 17)))∧w'=w:=Fp w x 17 17 (by decide) (by decide) (by decide)
theorem pr19 (w : World) (x : UInt32) : Calls Tryz.prog 289 #[.int .u32 (u x), .int .i64 19] w fun e w'=>e = .returned (.int .u32 (u (Bk x 19)))∧w'=w:=Fl w x 19 19 (by decide) (by decide) (by decide)
theorem rr19 (w : World) (x : UInt32) : Calls Tryz.prog 197 #[.int .u32 (u x), .int .u32 19] w fun e w'=>e = .returned (.int .u32 (u (Bk x 19)))∧w'=w:=Fp w x 19 19 (by decide) (by decide) (by decide)
end Go.Proofs.YtckejblkppllaaaGreatDoor
namespace Go.Proofs.YtckejblkppllaaaGreatDoor
open Go.RowKit
theorem Hy {P : Program} (w : World) {o : Oper} {a : Act} {K : Act→World→Prop} {Q : Exit→Act→World→Prop} (ty : TypeId) (x y : Operand) (ho : o.op = .store ty x y)
  (g : Nat) (c : Array Value) (hx : a.eval x = .pointer (some ⟨g,0,none⟩)) (hy : a.eval y = .agg c) (t : TypeId) (old : Array Value) (hg : w.heap[g]? = some (.cells old t (0,0)))
  (hi : (P.info? ty).map (·.size)=some c.size) (hs : old.size=c.size) (h1 : c.all (·.oneCell')=true)
  (h : ∀ w',w'.heap[g]? = some (.cells c t (0,0))→w.grownBy w' (some g)→K (a.put o.dst undef) w') : o.wp P a w K Q:=by
 unfold Oper.wp execOp
 simp only [ho,hx,hy,Instr.storeAt,Instr.sureAddr,Sem.run_bind,Sem.run_pure,Result.andThen_ok,run_storeVar_row w g t ty old c hg hi hs h1]
 exact h _ (setRow_heap w g old c t (0,0) hg) ⟨rfl,rfl,rfl,by simp,fun k _ hk=>setRow_other w g k _ (fun e=>hk (by simp [e]))⟩
theorem Fe {P : Program} (w : World) {ops : Array Oper} {rest : List Oper} {o : Oper} {a : Act} {Q : Exit→Act→World→Prop} (hgd : o.guard=none) (ty : TypeId) (x y : Operand) (ho : o.op = .store ty x y)
  (g : Nat) (c : Array Value) (hx : a.eval x = .pointer (some ⟨g,0,none⟩)) (hy : a.eval y = .agg c) (t : TypeId) (old : Array Value) (hg : w.heap[g]? = some (.cells old t (0,0)))
  (hi : (P.info? ty).map (·.size)=some c.size) (hs : old.size=c.size) (h1 : c.all (·.oneCell')=true)
  (h : ∀ w',w'.heap[g]? = some (.cells c t (0,0))→w.grownBy w' (some g)→wpList P ops Q rest (a.put o.dst undef) w') : wpList P ops Q (o :: rest) a w:=
 wpList_plain hgd fun _ hK=>Hy w ty x y ho g c hx hy t old hg hi hs h1 (fun w' h1 h2=>hK _ _ (h w' h1 h2))
theorem L0 {P : Program} (w : World) (o : Oper) (a : Act) (ty : TypeId) (x : Operand) (ho : o.op = .load ty x) (g : Nat) (hx : a.eval x = .pointer (some ⟨g,0,none⟩)) (t : TypeId) (c : Array Value) (fr : Nat × Nat) (d : TypeDesc)
  (hg : w.heap[g]? = some (.cells c t fr)) (hu : P.underlying ty=some d) (hd : (match d with | .struct _ | .array _ _=>true | _=>false)=true) (hi : (P.info? ty).map (·.size)=some c.size) :
  (execOp a.eval o).run P w = .ok (.value (.agg c)) w:=by
 unfold execOp
 simp only [ho,hx,Instr.loadAt,Instr.sureAddr,Sem.run_bind,Sem.run_pure,Result.andThen_ok,run_loadVar_row w g t ty c fr d hg hu hd hi]
theorem heap_last (w : World) (o : Obj) (n : Nat) (h : n=w.heap.size) : (w.alloc o).heap[n]? = some o:=by
 subst h
 show (w.heap.push o)[w.heap.size]? = some o
 simp
theorem heap_past (w : World) (o : Obj) (n : Nat) (h : n<w.heap.size) : (w.alloc o).heap[n]? = w.heap[n]?:=by
 show (w.heap.push o)[n]? = _
 rw [Array.getElem?_push_lt h]
 simp [h]
theorem Ad {w : World} {n : Nat} {o : Obj} (h : w.heap[n]? = some o) : n<w.heap.size:=(Array.getElem?_eq_some_iff.1 h).1
def uc (l : List UInt32) : Array Value:=(l.map fun x=>Value.int .u32 (u x)).toArray
theorem Fq (l : List UInt32) : (uc l).size=l.length:=by simp [uc]
theorem Eo (l : List UInt32) (t : Nat) (h : t<l.length) : (uc l)[t]? = some (.int .u32 (u (l.getD t 0))):=by
 simp [uc,List.getD,h]
theorem Ea (l : List UInt32) : (uc l).all (·.oneCell')=true:=by
 simp [uc,Value.oneCell']
theorem u_add' (x y : UInt32) : IntKind.u32.wrap (u x+u y)=u (x+y):=by rw [IntKind.wrap_u32,Fc]
theorem u_add4 (x y z v : UInt32) : (u x+u y+u z+u v) % 4294967296=u (x+y+z+v):=by
 rw [← Fc (x+y+z) v,← Fc (x+y) z,← Fc x y]
 omega
def Bh (w : World) : Prop:=1<w.heap.size∧∀ j,j<64→w.cell? ⟨1,j,none⟩=some (.int .u32 (u (kL.getD j 0)))
theorem Bh.keep {w w' : World} {B : Nat} (h : Bh w) (hb : Below B w w') (hB : 1<B) : Bh w':=
 ⟨Nat.lt_of_lt_of_le h.1 hb.size,fun j hj=>(hb.cell (p:=⟨1,j,none⟩) hB).trans (h.2 j hj)⟩
theorem I0 {a b : Array Value} (h : a=b) : Ending.returned (.agg a) = .returned (.agg b):=by rw [h]
theorem Tryz.infoEight : (Tryz.prog.info? 359).map (·.size)=some 8:=by kernel_rfl
theorem Tryz.infoA8 : (Tryz.prog.info? 305).map (·.size)=some 8:=by kernel_rfl
theorem Tryz.infoBlk : (Tryz.prog.info? 360).map (·.size)=some 64:=by kernel_rfl
theorem Tryz.infoA64 : (Tryz.prog.info? 303).map (·.size)=some 64:=by kernel_rfl
end Go.Proofs.YtckejblkppllaaaGreatDoor
