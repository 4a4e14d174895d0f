/-
  Texts joined: HSpread, Steps, HMixed, HPut, HEnds, HFeed.
-/
import Derived.Test.YtckejblkppllaaaGreatDoorT1HSha
import Derived.Deep.RegionHeld
import Derived.WalkKit
import Derived.Test.YtckejblkppllaaaGreatDoorT2HRounds
import Derived.Deep.Cut
import Derived.Deep.CutRange
import Derived.Lib.AppendStr
import Derived.Laws.IdiomStrings
namespace Go.Proofs.YtckejblkppllaaaGreatDoor
open Go.RowKit
theorem bc_getD (l : List UInt8) (j : Nat) (h : j<l.length) : (bc l)[j]? = some (.int .u8 ((l.getD j 0).toNat : Int)):=by
 simp [bc,List.getElem?_map,List.getElem?_eq_getElem h,List.getD]
def SP (w : World) (l : List UInt8) (L : List UInt32) (wr : World) : Prop:=Below w.heap.size w wr∧(∀ k,k<64→wr.cell? ⟨w.heap.size,k,none⟩=some (.int .u8 ((l.getD k 0).toNat : Int))) ∧
 (∃ z,wr.heap[w.heap.size+1]? = some (.cells z 303)∧z.size=64)∧wr.heap[w.heap.size+1+1]? = some (.cells (uc (L++List.replicate (64 - L.length) 0)) 303)
theorem z64 : uc (List.replicate 64 0) = #[.int .u32 0, .int .u32 0, .int .u32 0, .int .u32 0, .int .u32 0, .int .u32 0, .int .u32 0, .int .u32 0, .int .u32 0, .int .u32 0, .int .u32 0, .int .u32 0, .int .u32 0, .int .u32 0, .int .u32 0, .int .u32 0, .int .u32 0, .int .u32 0, .int .u32 0, .int .u32 0, .int .u32 0, .int .u32 0, .int .u32 0, .int .u32 0, .int .u32 0, .int .u32 0, .int .u32 0, .int .u32 0, .int .u32 0, .int .u32 0, .int .u32 0, .int .u32 0, .int .u32 0, .int .u32 0, .int .u32 0, .int .u32 0, .int .u32 0, .int .u32 0, .int .u32 0, .int .u32 0, .int .u32 0, .int .u32 0, .int .u32 0, .int .u32 0, .int .u32 0, .int .u32 0, .int .u32 0, .int .u32 0, .int .u32 0, .int .u32 0, .int .u32 0, .int .u32 0, .int .u32 0, .int .u32 0, .int .u32 0, .int .u32 0, .int .u32 0, .int .u32 0, .int .u32 0, .int .u32 0, .int .u32 0, .int .u32 0, .int .u32 0, .int .u32 0]:=rfl
theorem sp_start (w : World) (l : List UInt8) (hl : l.length=64) (D : Array Value) (hD : (bc l).toArray=D) :
  SP w l [] (((w.alloc (.cells D 360)).alloc (.cells (uc (List.replicate 64 0)) 303)).alloc (.cells (uc (List.replicate 64 0)) 303)):=by
 refine ⟨((((Below.refl _ _).alloc (Nat.le_refl _) _).alloc (by simp) _).alloc (by simp; omega) _),fun k hk=>?_,⟨uc (List.replicate 64 0),?_,by simp [uc]⟩,?_⟩
 ·rw [World.cell?_alloc_past _ _ _ (by simp; omega),World.cell?_alloc_past _ _ _ (by simp),World.cell?_alloc_at _ _ _ _ (by simp),← hD,List.getElem?_toArray,bc_getD l k (by omega)]
 ·rw [heap_past _ _ _ (by simp),heap_last _ _ _ (by simp)]
 ·rw [heap_last _ _ _ (by simp)]
  rfl
theorem Nz (l : List UInt8) (k : Nat) (hk : k<16) : (Aw l).take (k+1)=(Aw l).take k ++ [wordAt l k]:=by
 rw [List.take_succ_eq_append_getElem (by simpa [Aw] using hk)]
 simp [Aw]
theorem Gw (l : List UInt8) : (Aw l).length=16:=by simp [Aw]
theorem heap_setCell (w : World) (g i : Nat) (c : Array Value) (t : TypeId) (fr : Nat × Nat) (v : Value) (h : w.heap[g]? = some (.cells c t fr)) : (w.setCell ⟨g,i,none⟩ v).heap[g]? = some (.cells (c.setIfInBounds i v) t fr):=by
 unfold World.setCell
 simp [h,Array.getElem?_modify]
theorem uc_set (L : List UInt32) (x : UInt32) (n : Nat) (h : L.length<n) : (uc (L++List.replicate (n - L.length) 0)).setIfInBounds L.length (.int .u32 (u x))=uc ((L ++ [x])++List.replicate (n - (L ++ [x]).length) 0):=by
 obtain ⟨m,hm⟩ : ∃ m,n - L.length=m+1:=⟨n - L.length - 1,by omega⟩
 have hm' : n - (L ++ [x]).length=m:=by simp; omega
 rw [hm,hm',List.replicate_succ]
 unfold uc
 rw [List.setIfInBounds_toArray]
 congr 1
 simp
theorem SP.store {w : World} {l : List UInt8} {L : List UInt32} {wr : World} (h : SP w l L wr) (hL : L.length<64) (k : Nat) (hk : L.length=k) (x : UInt32) : SP w l (L ++ [x]) (wr.setCell ⟨w.heap.size+1+1,k,none⟩ (.int .u32 (u x))):=by
 subst hk
 obtain ⟨h1,h2,⟨z,h3,h3'⟩,h4⟩:=h
 have hb : Below (w.heap.size+1+1) wr (wr.setCell ⟨w.heap.size+1+1,L.length,none⟩ (.int .u32 (u x))):=(Below.refl _ _).setCell (p:=⟨w.heap.size+1+1,L.length,none⟩) (Nat.le_refl _) _
 refine ⟨h1.setCell (p:=⟨w.heap.size+1+1,L.length,none⟩) (by simp; omega) _,fun k hk=>(hb.cell (p:=⟨w.heap.size,k,none⟩) (by simp; omega)).trans (h2 k hk),⟨z,(hb.block _ (by omega)).trans h3,h3'⟩,?_⟩
 rw [heap_setCell _ _ _ _ _ _ _ h4,uc_set L x 64 hL]
theorem SP.drewN {w : World} {l : List UInt8} {L : List UInt32} {wr : World} (h : SP w l L wr) (n : Nat) : SP w l L (wr.drewN n):=by
 obtain ⟨h1,h2,h3,h4⟩:=h
 exact ⟨below_drewN h1 n,h2,h3,h4⟩
theorem SP.drew {w : World} {l : List UInt8} {L : List UInt32} {wr : World} (h : SP w l L wr) : SP w l L wr.drew:=by
 obtain ⟨h1,h2,h3,h4⟩:=h
 exact ⟨h1.drew,h2,h3,h4⟩
theorem SP.get {w : World} {l : List UInt8} {L : List UInt32} {wr : World} (h : SP w l L wr) (_hL : L.length≤64) (k : Nat) (hk : k<L.length) : wr.cell? ⟨w.heap.size+1+1,k,none⟩=some (.int .u32 (u (L.getD k 0))):=by
 rw [cell_of_row _ _ _ _ _ _ h.2.2.2,Eo _ _ (by simp; omega)]
 simp [List.getD,List.getElem?_append_left hk]
theorem SP.room {w : World} {l : List UInt8} {L : List UInt32} {wr : World} (h : SP w l L wr) (k : Nat) (hk : L.length=k) (hL : k<64) : wr.cell? ⟨w.heap.size+1+1,k,none⟩=some (.int .u32 (u 0))∧wr.frozen? ⟨w.heap.size+1+1,k,none⟩=false:=by
 subst hk
 constructor
 ·rw [cell_of_row _ _ _ _ _ _ h.2.2.2,Eo _ _ (by simp; omega)]
  obtain ⟨m,hm⟩ : ∃ m,64 - L.length=m+1:=⟨64 - L.length - 1,by omega⟩
  simp [List.getD,hm,List.replicate_succ]
 ·simp [World.frozen?,h.2.2.2]
theorem Tryz.uBlk : Tryz.prog.underlying 360=some (.array 64 5):=by kernel_rfl
theorem slice36 (w : World) (b off l h : Nat) (L H : Int) (hL : L=(l : Int)) (hH : H=(h : Int)) (h1 : l≤h) (h2 : h≤64) (h3 : l<64) :
  (Instr.sliceAt 360 (.pointer (some ⟨b,off,none⟩)) (some (.int .i64 L)) (some (.int .i64 H)) none).run Tryz.prog w = .ok (.slice (some ⟨b,off+l,none⟩) (h - l) (64 - l)) w:=by
 subst hL hH
 have e : ¬ 64=l:=by omega
 have a1 : (l : Int)≤(h : Int):=by omega
 have a2 : (h : Int)≤64:=by omega
 simp [Instr.sliceAt,Instr.sureAddr,run_underlying Tryz.uBlk,Instr.sliceBounds,run_sliceBound,e,a1,a2,Addr.add_mid,Result.andThen]
theorem u_of8 (b : UInt8) : (b.toNat : Int)=u b.toUInt32:=by simp [u]
theorem u_shl24 (x : UInt32) : u x * (16777216 : Int) % (4294967296 : Int)=u (x <<< (24 : UInt32)):=u_shl x 24 24 rfl (by omega)
theorem u_shl16 (x : UInt32) : u x * (65536 : Int) % (4294967296 : Int)=u (x <<< (16 : UInt32)):=u_shl x 16 16 rfl (by omega)
theorem u_shl8 (x : UInt32) : u x * (256 : Int) % (4294967296 : Int)=u (x <<< (8 : UInt32)):=u_shl x 8 8 rfl (by omega)
theorem u_shr3 (x : UInt32) : u x / (8 : Int)=u (x >>> (3 : UInt32)):=u_shr x 3 3 rfl (by omega)
theorem u_shr10 (x : UInt32) : u x / (1024 : Int)=u (x >>> (10 : UInt32)):=u_shr x 10 10 rfl (by omega)
theorem u_mod (x : UInt32) : u x % 4294967296=u x:=by
 have:=u_lt x
 unfold u
 omega
theorem word_u (b0 b1 b2 b3 : UInt8) : bits .or .u32 (bits .or .u32 (bits .or .u32 (u b0.toUInt32 % 4294967296 * 16777216 % 4294967296) (u b1.toUInt32 % 4294967296 * 65536 % 4294967296)) (u b2.toUInt32 % 4294967296 * 256 % 4294967296)) (u b3.toUInt32 % 4294967296)=u (word b0 b1 b2 b3):=by
 rw [u_mod,u_mod,u_mod,u_mod,u_shl24,u_shl16,u_shl8,u_or,u_or,u_or]
 rfl
theorem Ir (l : List UInt32) (n : Nat) : (ext l n).length=l.length+n:=by
 induction n with
 | zero=>rfl
 | succ n ih=>simp [ext,ih]; omega
set_option maxRecDepth 20000 in
set_option maxHeartbeats 800000 in
theorem spread_any (w : World) (l : List UInt8) (hl : l.length=64) :
  Calls Tryz.prog 288 #[.agg (bc l).toArray] w fun e w'=>e = .returned (.agg (uc (ext (Aw l) 48)))∧Below w.heap.size w w':=by
 generalize hD : (bc l).toArray=D
 go_enter Tryz.func288,Tryz.ntmps288
 go_wp2_with fail
 go_loopw [11] (fun t wr=>∃ k : Nat,k≤16∧t = .int .i64 k∧SP w l ((Aw l).take k) wr)
  (fun t _=>16 - (intOf t).toNat)
 case atStart=>
  refine ⟨0,by omega,rfl,?_⟩
  exact sp_start w l hl D hD
 case round=>
  obtain ⟨k,hk,rfl,hR⟩:=hrel
  by_cases hlt : k<16
  ·have c0:=hR.2.1 (4 * k) (by omega)
   have c1:=hR.2.1 (4 * k+1) (by omega)
   have c2:=hR.2.1 (4 * k+2) (by omega)
   have c3:=hR.2.1 (4 * k+3) (by omega)
   have hS : (Aw l).take (k+1)=(Aw l).take k ++ [word (l.getD (4 * k) 0) (l.getD (4 * k+1) 0) (l.getD (4 * k+2) 0) (l.getD (4 * k+3) 0)]:=Nz l k hlt
   have hlen : ((Aw l).take k).length=k:=by simp [Aw]; omega
   obtain ⟨hroom,hfr⟩:=hR.room k hlen (by omega)
   generalize l.getD (4 * k) 0=b0 at *
   generalize l.getD (4 * k+1) 0=b1 at *
   generalize l.getD (4 * k+2) 0=b2 at *
   generalize l.getD (4 * k+3) 0=b3 at *
   rw [u_of8] at c0 c1 c2 c3
   have HS:=Ac hS
   have HR:=Ac hR
   have HL:=Ac hlen
   have hsl:=slice36 wr w.heap.size 0 (4 * k) (4 * k+4) (k * 4) ((k+1) * 4) (by omega) (by omega) (by omega) (by omega) (by omega)
   rw [Nat.zero_add,Nat.add_sub_cancel_left] at hsl
   clear hS hR hlen
   go_wp2_with fail
   go_region
   go_wp2_with fail
   refine ⟨⟨k+1,by omega,by go_num,?_⟩,by simp [intOf]; omega⟩
   rw [word_u,HS.out]
   exact (HR.out.store (by rw [HL.out]; omega) k HL.out _).drew
  ·obtain rfl : k=16:=by omega
   rw [List.take_of_length_le (by rw [Gw]; omega)] at hR
   rw [show ((16 : Nat) : Int)=16 from rfl]
   go_wp2_with fail
   go_loopw [6] (fun t wr=>∃ k : Nat,16≤k∧k≤64∧t = .int .i64 (k : Int)∧SP w l (ext (Aw l) (k - 16)) wr)
    (fun t _=>64 - (intOf t).toNat)
   case atStart=>exact ⟨16,by omega,by omega,rfl,hR⟩
   case round=>
    clear hR
    obtain ⟨k,hk0,hk,rfl,hR⟩:=hrel
    have hlen : (ext (Aw l) (k - 16)).length=k:=by rw [Ir,Gw]; omega
    by_cases hlt : k<64
    ·have hS : ext (Aw l) (k+1 - 16)=ext (Aw l) (k - 16) ++ [s1 ((ext (Aw l) (k - 16)).getD (k - 2) 0)+(ext (Aw l) (k - 16)).getD (k - 7) 0+s0 ((ext (Aw l) (k - 16)).getD (k - 15) 0)+(ext (Aw l) (k - 16)).getD (k - 16) 0]:=by
      rw [show k+1 - 16=(k - 16)+1 from by omega]
      show _ ++ [next _]=_
      unfold next
      rw [hlen]
     have c0:=hR.get (by omega) (k - 2) (by omega)
     have c1:=hR.get (by omega) (k - 7) (by omega)
     have c2:=hR.get (by omega) (k - 15) (by omega)
     have c3:=hR.get (by omega) (k - 16) (by omega)
     obtain ⟨hroom,hfr⟩:=hR.room k hlen (by omega)
     generalize (ext (Aw l) (k - 16)).getD (k - 2) 0=b0 at *
     generalize (ext (Aw l) (k - 16)).getD (k - 7) 0=b1 at *
     generalize (ext (Aw l) (k - 16)).getD (k - 15) 0=b2 at *
     generalize (ext (Aw l) (k - 16)).getD (k - 16) 0=b3 at *
     have HS:=Ac hS
     have HR:=Ac hR
     have HL:=Ac hlen
     clear hS hR hlen
     have hx:=u_xor
     have hp:=Fc
     have hp':=u_add'
     go_wp2_with fail
     have h3:=u_shr3
     have h10:=u_shr10
     go_region
     go_wp2_with fail
     refine (pr7 _ b2).mono ?_
     rintro e1 w1 ⟨rfl,rfl⟩
     go_wp2_with fail
     refine (pr18 _ b2).mono ?_
     rintro e1 w1 ⟨rfl,rfl⟩
     go_wp2_with fail
     refine (pr17 _ b0).mono ?_
     rintro e1 w1 ⟨rfl,rfl⟩
     go_wp2_with fail
     refine (pr19 _ b0).mono ?_
     rintro e1 w1 ⟨rfl,rfl⟩
     go_wp2_with fail
     go_region
     go_wp2_with fail
     refine ⟨⟨k+1,by omega,by omega,by go_num,?_⟩,by simp [intOf]; omega⟩
     rw [HS.out]
     exact ((HR.out.store (by rw [HL.out]; exact hlt) k HL.out _).drew).drew
    ·obtain rfl : k=64:=by omega
     have hb:=hR.1
     have hrow:=hR.2.2.2
     rw [hlen] at hrow
     simp only [Nat.sub_self,List.replicate_zero,List.append_nil] at hrow
     obtain ⟨z,hz,hz'⟩:=hR.2.2.1
     have hsz : (uc (ext (Aw l) 48)).size=64:=by rw [Fq]; exact hlen
     clear hR hlen
     have hi : (Tryz.prog.info? 303).map (·.size)=some (uc (ext (Aw l) 48)).size:=by rw [hsz]; exact Tryz.infoA64
     have HI:=Ac hi
     have HZ:=Ac hz'
     have HS:=Ac hsz
     have hone:=Ac (Ea (ext (Aw l) 48))
     clear hi hz' hsz
     have hrow' : wr.heap[w.heap.size+1+1]? = some (.cells (uc (ext (Aw l) 48)) 303):=hrow
     clear hrow
     generalize hC : uc (ext (Aw l) 48)=C at *
     have HC:=Ac hC
     clear hC
     go_wp2_with (first | (refine wpList_load_row rfl 303 (.tmp 3) rfl _ rfl 303 C (0,0) _ hrow' Tryz.underlying303 rfl HI.out ?_) | (refine Fe _ rfl 303 (.tmp 2) (.tmp 88) rfl _ C rfl rfl 303 z hz HI.out (by rw [HZ.out,HS.out]) hone.out ?_; intro w2 hrow2 hg2))
     have hb2:=hb.grown hg2 hb.size (by intro k hk; injection hk with hk; omega)
     refine bodyPost_ret (v:=.agg C) (results_cell_row rfl _ _ _ _ _ _ _ rfl hrow2 Tryz.underlying303 rfl HI.out) rfl ⟨I0 HC.out.symm,hb2⟩
end Go.Proofs.YtckejblkppllaaaGreatDoor
namespace Go.Proofs.YtckejblkppllaaaGreatDoor
open Go.RowKit
variable {P : Program} {l : List Oper} {Q : Exit→Act→World→Prop} {md : Region.Mode} {S : World→Prop}
theorem Ax {i : Nat} {oi : Oper} {v : Value} {fuel : Nat} {listed : Array Bool} {a : Act} {w : World} (hi : l[i]? = some oi)
  (hs : Region.noSelect l.toArray=true) (hf : Region.free md l.toArray listed i=true) (hr : (Region.ready md l.toArray listed).contains i=true)
  (hQ : ∀ c a w,Q (.panic c) (a.put oi.dst v) w→Q (.panic c) a w) (hg : Region.wanted oi (yielded l.toArray a.tmps)=true) (hy : ∀ w,S w→(execOp a.eval oi).run P w = .ok (.value v) w) (hS : S w)
  (h : wpAnyH P md l.toArray Q S fuel (listed.setIfInBounds i true) (a.put oi.dst v) w) : wpAnyH P md l.toArray Q S (fuel+1) listed a w:=
 wpAnyH_take (by simpa using hi) hs hf hr hQ (Or.inl ⟨hg,hy⟩) hS h
theorem takeJ (i : Nat) {oi : Oper} {v : Value} {fuel : Nat} {listed listed' : Array Bool} {a a' : Act} {w : World} (hy : ∀ w,S w→(execOp a.eval oi).run P w = .ok (.value v) w) (hS : S w)
  (h : wpAnyH P md l.toArray Q S fuel listed' a' w) (hi : l[i]? = some oi:=by exact rfl)
  (hs : Region.noSelect l.toArray=true:=by kernel_rfl) (hf : Region.free md l.toArray listed i=true:=by kernel_rfl) (hr : (Region.ready md l.toArray listed).contains i=true:=by kernel_rfl)
  (hQ : ∀ c a w,Q (.panic c) (a.put oi.dst v) w→Q (.panic c) a w:=by exact fun _ _ _ h=>h) (hg : Region.wanted oi (yielded l.toArray a.tmps)=true:=by exact rfl)
  (hl : listed.setIfInBounds i true=listed':=by (try simp only [List.setIfInBounds_toArray,List.set_cons_zero,List.set_cons_succ]); exact rfl)
  (ha : a.put oi.dst v=a':=by (try simp only [Act.put,List.setIfInBounds_toArray,List.set_cons_zero,List.set_cons_succ]); exact rfl) : wpAnyH P md l.toArray Q S (fuel+1) listed a w:=by
 subst hl ha
 exact Ax hi hs hf hr hQ hg hy hS h
theorem Aa (i : Nat) {oi : Oper} {v : Value} {fuel : Nat} {listed listed' : Array Bool} {a a' : Act} {w : World} (hS : S w) (h : wpAnyH P md l.toArray Q S fuel listed' a' w) (hi : l[i]? = some oi:=by exact rfl)
  (hs : Region.noSelect l.toArray=true:=by kernel_rfl) (hf : Region.free md l.toArray listed i=true:=by kernel_rfl) (hr : (Region.ready md l.toArray listed).contains i=true:=by kernel_rfl)
  (hy : ∀ w,S w→(execOp a.eval oi).run P w = .ok (.value v) w:=by (intro w hS; (try dsimp only at hS); (try simp only [and_assoc] at hS); go_simp; try with_reducible rfl))
  (hQ : ∀ c a w,Q (.panic c) (a.put oi.dst v) w→Q (.panic c) a w:=by exact fun _ _ _ h=>h) (hg : Region.wanted oi (yielded l.toArray a.tmps)=true:=by exact rfl)
  (hl : listed.setIfInBounds i true=listed':=by (try simp only [List.setIfInBounds_toArray,List.set_cons_zero,List.set_cons_succ]); exact rfl)
  (ha : a.put oi.dst v=a':=by (try simp only [Act.put,List.setIfInBounds_toArray,List.set_cons_zero,List.set_cons_succ]); exact rfl) : wpAnyH P md l.toArray Q S (fuel+1) listed a w:=by
 subst hl ha
 exact Ax hi hs hf hr hQ hg hy hS h
theorem skipH {i : Nat} {oi : Oper} {fuel : Nat} {listed : Array Bool} {a : Act} {w : World} (hi : l[i]? = some oi)
  (hs : Region.noSelect l.toArray=true) (hf : Region.free md l.toArray listed i=true) (hr : (Region.ready md l.toArray listed).contains i=true)
  (hQ : ∀ c a w,Q (.panic c) (a.put oi.dst undef) w→Q (.panic c) a w) (hg : Region.wanted oi (yielded l.toArray a.tmps)=false) (hS : S w)
  (h : wpAnyH P md l.toArray Q S fuel (listed.setIfInBounds i true) (a.put oi.dst undef) w) : wpAnyH P md l.toArray Q S (fuel+1) listed a w:=
 wpAnyH_take (by simpa using hi) hs hf hr hQ (Or.inr ⟨hg,rfl⟩) hS h
theorem Ae (i : Nat) {oi : Oper} {fuel : Nat} {listed listed' : Array Bool} {a a' : Act} {w : World} (hS : S w) (h : wpAnyH P md l.toArray Q S fuel listed' a' w) (hi : l[i]? = some oi:=by exact rfl)
  (hs : Region.noSelect l.toArray=true:=by kernel_rfl) (hf : Region.free md l.toArray listed i=true:=by kernel_rfl) (hr : (Region.ready md l.toArray listed).contains i=true:=by kernel_rfl)
  (hQ : ∀ c a w,Q (.panic c) (a.put oi.dst undef) w→Q (.panic c) a w:=by exact fun _ _ _ h=>h) (hg : Region.wanted oi (yielded l.toArray a.tmps)=false:=by exact rfl)
  (hl : listed.setIfInBounds i true=listed':=by (try simp only [List.setIfInBounds_toArray,List.set_cons_zero,List.set_cons_succ]); exact rfl)
  (ha : a.put oi.dst undef=a':=by (try simp only [Act.put,List.setIfInBounds_toArray,List.set_cons_zero,List.set_cons_succ]); exact rfl) : wpAnyH P md l.toArray Q S (fuel+1) listed a w:=by
 subst hl ha
 exact skipH hi hs hf hr hQ hg hS h
theorem Ai {i : Nat} {oi : Oper} {fuel : Nat} {listed : Array Bool} {a : Act} {w : World} (hi : l[i]? = some oi) (hr : Region.ready md l.toArray listed = [i]) (hg : Region.wanted oi (yielded l.toArray a.tmps)=true)
  (h : ∀ K' : Act→World→Prop,Shut (∀ a w,S w→(S w→wpAnyH P md l.toArray Q S fuel (listed.setIfInBounds i true) a w)→K' a w)→Oper.wp P oi a w K' Q) : wpAnyH P md l.toArray Q S (fuel+1) listed a w:=
 wpAnyH_ready hr (by simp) (AllReadyH.cons (o:=oi) (by simpa using hi) (fun K hK=>by rw [if_pos hg]; exact h K hK) AllReadyH.nil)
theorem twoH {i j : Nat} {oi oj : Oper} {fuel : Nat} {listed : Array Bool} {a : Act} {w : World} (hi : l[i]? = some oi) (hj : l[j]? = some oj) (hr : Region.ready md l.toArray listed = [i,j])
  (hgi : Region.wanted oi (yielded l.toArray a.tmps)=true) (hgj : Region.wanted oj (yielded l.toArray a.tmps)=true)
  (h1 : ∀ K' : Act→World→Prop,Shut (∀ a w,S w→(S w→wpAnyH P md l.toArray Q S fuel (listed.setIfInBounds i true) a w)→K' a w)→Oper.wp P oi a w K' Q)
  (h2 : ∀ K' : Act→World→Prop,Shut (∀ a w,S w→(S w→wpAnyH P md l.toArray Q S fuel (listed.setIfInBounds j true) a w)→K' a w)→Oper.wp P oj a w K' Q) : wpAnyH P md l.toArray Q S (fuel+1) listed a w:=
 wpAnyH_ready hr (by simp) (AllReadyH.cons (o:=oi) (by simpa using hi) (fun K hK=>by rw [if_pos hgi]; exact h1 K hK) (AllReadyH.cons (o:=oj) (by simpa using hj) (fun K hK=>by rw [if_pos hgj]; exact h2 K hK) AllReadyH.nil))
end Go.Proofs.YtckejblkppllaaaGreatDoor
namespace Go.Proofs.YtckejblkppllaaaGreatDoor
open Go.RowKit
theorem uc_set1 (L : List UInt32) (k : Nat) (x : UInt32) : (uc L).setIfInBounds k (.int .u32 (u x))=uc (L.set k x):=by
 unfold uc
 rw [List.setIfInBounds_toArray,List.map_set]
def acc (A B : List UInt32) (k : Nat) : List UInt32:=(List.zipWith (· + ·) A B).take k++A.drop k
theorem acc_zero (A B : List UInt32) : acc A B 0=A:=by simp [acc]
theorem Tryz.uEight : Tryz.prog.underlying 359=some (.array 8 302):=by kernel_rfl
theorem Tryz.uU : Tryz.prog.underlying 302=some (.int .u32):=by kernel_rfl
theorem index35 (w : World) (E : Array Value) (k : Nat) (v : Value) (hk : k<8) (h : E[k]? = some v) : (Instr.index 359 (.agg E) (.int .i64 (k : Int))).run Tryz.prog w = .ok v w:=by
 have a1 : (0 : Int)≤(k : Int):=by omega
 have a2 : (k : Int)<((8 : Nat) : Int):=by omega
 have ha : (isAgg 302).run Tryz.prog w = .ok false w:=by
  unfold isAgg
  rw [Sem.run_bind,run_underlying Tryz.uU w]
  rfl
 unfold Instr.index
 simp only [asIntOf,Sem.run_bind,Sem.run_pure,Result.andThen_ok,run_underlying Tryz.uEight w]
 rw [if_pos ⟨a1,a2⟩]
 simp [part,h]
theorem acc_get (A B : List UInt32) (k : Nat) (hA : k<A.length) (hB : B.length=A.length) : (acc A B k).getD k 0=A.getD k 0:=by
 have h : ((List.zipWith (· + ·) A B).take k).length=k:=by simp; omega
 simp [acc,List.getD,List.getElem?_append_right,h]
theorem acc_set (A B : List UInt32) (k : Nat) (hA : k<A.length) (hB : B.length=A.length) : (acc A B k).set k (A.getD k 0+B.getD k 0)=acc A B (k+1):=by
 have h : ((List.zipWith (· + ·) A B).take k).length=k:=by simp; omega
 unfold acc
 rw [List.set_append_right _ _ (by omega),h,Nat.sub_self,List.drop_eq_getElem_cons hA,List.set_cons_zero,List.take_succ_eq_append_getElem (by simp; omega)]
 simp [List.getD,hA,show k<B.length by omega]
theorem L6 (A B : List UInt32) (k : Nat) (hk : k≤A.length) (hB : B.length=A.length) : (acc A B k).length=A.length:=by
 simp [acc]; omega
theorem acc_all (s t : St) : acc s.list t.list 8=(s.add t).list:=rfl
theorem uc_st (s : St) : (uc s.list).size=8:=rfl
def MX (w : World) (s T : St) (k : Nat) (wr : World) : Prop:=Below w.heap.size w wr∧wr.heap[w.heap.size]? = some (.cells (uc (acc s.list T.list k)) 359)∧wr.heap[w.heap.size+1+1]? = some (.cells (uc [0,0,0,0,0,0,0,0]) 359)
theorem Cb (s : St) : s.list.length=8:=rfl
theorem MX.cell {w : World} {s T : St} {k : Nat} {wr : World} (h : MX w s T k wr) (hk : k<8) : wr.cell? ⟨w.heap.size,k,none⟩=some (.int .u32 (u (s.list.getD k 0)))∧wr.frozen? ⟨w.heap.size,k,none⟩=false:=by
 constructor
 ·rw [cell_of_row _ _ _ _ _ _ h.2.1,Eo _ _ (by rw [L6 _ _ _ (by rw [Cb]; omega) (by rw [Cb,Cb]),Cb]; exact hk),acc_get _ _ _ (by rw [Cb]; exact hk) (by rw [Cb,Cb])]
 ·simp [World.frozen?,h.2.1]
theorem MX.store {w : World} {s T : St} {k : Nat} {wr : World} (h : MX w s T k wr) (hk : k<8) : MX w s T (k+1) (wr.setCell ⟨w.heap.size,k,none⟩ (.int .u32 (u (s.list.getD k 0+T.list.getD k 0)))):=by
 refine ⟨h.1.setCell (p:=⟨w.heap.size,k,none⟩) (Nat.le_refl _) _,?_,?_⟩
 ·rw [heap_setCell _ _ _ _ _ _ _ h.2.1,uc_set1,acc_set _ _ _ (by rw [Cb]; exact hk) (by rw [Cb,Cb])]
 ·rw [Below.heap_setCell _ _ _ _ (by simp; omega)]
  exact h.2.2
set_option maxRecDepth 20000 in
set_option maxHeartbeats 800000 in
theorem mixed_gen (w : World) (s : St) (l : List UInt8) (hl : l.length=64) (hT : Bh w) (W : List UInt32) (T : St)
  (hsp : ∀ w,Calls Tryz.prog 288 #[.agg (bc l).toArray] w fun e w'=>e = .returned (.agg (uc W))∧Below w.heap.size w w')
  (hrd : ∀ w,Bh w→Calls Tryz.prog 287 #[.agg (uc s.list), .agg (uc W)] w fun e w'=>e = .returned (.agg (uc T.list))∧Below w.heap.size w w') :
  Calls Tryz.prog 280 #[.agg (uc s.list), .agg (bc l).toArray] w fun e w'=>e = .returned (.agg (uc (s.add T).list))∧Below w.heap.size w w':=by
 generalize hC : uc s.list=C
 generalize hD : (bc l).toArray=D
 have hCs : C.size=8:=by rw [← hC]; rfl
 have hDs : D.size=64:=by rw [← hD]; simpa [bc] using hl
 obtain ⟨w3,hw3⟩ : ∃ x,x=((w.alloc (Obj.cells C 359)).alloc (Obj.cells D 360)).alloc (Obj.cells #[.int .u32 0, .int .u32 0, .int .u32 0, .int .u32 0, .int .u32 0, .int .u32 0, .int .u32 0, .int .u32 0] 359):=⟨_,rfl⟩
 have f0 : w3.heap[w.heap.size]? = some (.cells C 359):=by rw [hw3,heap_past _ _ _ (by simp; omega),heap_past _ _ _ (by simp),heap_last _ _ _ rfl]
 have f1 : w3.heap[w.heap.size+1]? = some (.cells D 360):=by rw [hw3,heap_past _ _ _ (by simp),heap_last _ _ _ (by simp)]
 have f2 : w3.heap[w.heap.size+1+1]? = some (.cells (uc [0,0,0,0,0,0,0,0]) 359):=by rw [hw3,heap_last _ _ _ (by simp)]; rfl
 have hb3 : Below w.heap.size w w3:=by rw [hw3]; exact (((Below.refl _ _).alloc (Nat.le_refl _) _).alloc (by simp) _).alloc (by simp; omega) _
 have HZ : Hid (w3.heap.size=w.heap.size+3):=by show _=_; rw [hw3]; simp
 have h0:=hT.1
 have HW:=Ac hw3
 have HB:=Ac hb3
 go_enter Tryz.func280,Tryz.ntmps280
 clear hw3
 go_upto_region 1 with fail
 rw [← HW.out]
 go_cut [5] from 8 to 24 (fun p wc'=>∃ g,p = .pointer (some ⟨g,0,none⟩)∧w3.heap.size≤g∧wc'.heap[g]? = some (.cells (uc T.list) 359)∧Below w3.heap.size w3 wc')
 case first=>
  subst hC hD
  have hT3:=hT.keep hb3 h0
  have hz0 : 1<w3.heap.size:=by have:=HZ.out; omega
  have hCi : (Tryz.prog.info? 359).map (·.size)=some (uc s.list).size:=Tryz.infoEight
  have hci : (Tryz.prog.info? 359).map (·.size)=some (uc T.list).size:=by rw [uc_st]; exact Tryz.infoEight
  have hcs : (uc [0,0,0,0,0,0,0,0]).size=(uc T.list).size:=by rw [uc_st]; rfl
  have hDi : (Tryz.prog.info? 360).map (·.size)=some (bc l).toArray.size:=by rw [hDs]; exact Tryz.infoBlk
  refine wp_region_held_drew (S:=fun W=>Below w3.heap.size w3 W) (by kernel_rfl) ((Below.refl _ _).drew) (fun hHeld=>?_)
  refine Ax (i:=0) (v:=.agg (uc s.list)) rfl (by kernel_rfl) (by kernel_rfl) (by kernel_rfl) (fun _ _ _ h=>h) rfl ?_ hHeld ?_
  ·intro W hS; exact L0 W _ _ 359 (.tmp 2) rfl _ rfl 359 (uc s.list) (0,0) _ ((hS.block _ (Ad f0)).trans f0) Tryz.underlying359 rfl hCi
  try simp only [Act.put,List.setIfInBounds_toArray,List.set_cons_zero,List.set_cons_succ]
  refine Ax (i:=1) (v:=.agg (bc l).toArray) rfl (by kernel_rfl) (by kernel_rfl) (by kernel_rfl) (fun _ _ _ h=>h) rfl ?_ hHeld ?_
  ·intro W hS; exact L0 W _ _ 360 (.tmp 3) rfl _ rfl 360 (bc l).toArray (0,0) _ ((hS.block _ (Ad f1)).trans f1) Tryz.underlying360 rfl hDi
  try simp only [Act.put,List.setIfInBounds_toArray,List.set_cons_zero,List.set_cons_succ]
  refine twoH (i:=2) (j:=4) rfl rfl (by kernel_rfl) rfl rfl (fun K hK=>?_) (fun K hK=>?_)
  ·have hge:=hHeld.size
   go_simp
   refine (hsp _).mono ?_
   rintro e1 w4 ⟨rfl,hb4⟩
   go_simp
   refine hK.out _ _ (hHeld.trans (hb4.mono hHeld.size)) (fun hHeld=>?_)
   clear hK K
   refine twoH (i:=3) (j:=4) rfl rfl (by kernel_rfl) rfl rfl (fun K hK=>?_) (fun K hK=>?_)
   ·have hge:=hHeld.size
    go_simp
    refine (hrd _ (hT3.keep hHeld hz0)).mono ?_
    rintro e1 w5 ⟨rfl,hb5⟩
    go_simp
    refine hK.out _ _ (hHeld.trans (hb5.mono hHeld.size)) (fun hHeld=>?_)
    clear hK K
    have hge:=hHeld.size
    refine Ai (i:=4) rfl (by kernel_rfl) rfl (fun K hK=>?_)
    go_simp
    refine hK.out _ _ (hHeld.alloc hHeld.size _) (fun hHeld=>?_)
    have hg:=heap_last w5 (Obj.cells (uc [0,0,0,0,0,0,0,0]) 359) _ rfl
    clear hK K
    refine Ai (i:=5) rfl (by kernel_rfl) rfl (fun K hK=>?_)
    refine Hy _ 359 (.tmp 5) (.tmp 11) rfl _ (uc T.list) rfl rfl 359 _ hg hci hcs (Ea _) ?_
    intro w6 hrow hg6
    refine hK.out _ _ (hHeld.grown hg6 hHeld.size (by intro k hk; injection hk with hk; subst hk; exact hge)) (fun hHeld=>?_)
    clear hK K
    refine wpAnyH_done (by kernel_rfl) ?_ _
    simp only [Act.put]
    go_wp2_with fail
    go_meet
    exact ⟨_,rfl,hge,hrow,hHeld⟩
   ·have hge:=hHeld.size
    go_simp
    refine hK.out _ _ (hHeld.alloc hHeld.size _) (fun hHeld=>?_)
    have hg:=heap_last w4 (Obj.cells (uc [0,0,0,0,0,0,0,0]) 359) _ rfl
    clear hK K
    refine Ai (i:=3) rfl (by kernel_rfl) rfl (fun K hK=>?_)
    go_simp
    refine (hrd _ (hT3.keep hHeld hz0)).mono ?_
    rintro e1 w5 ⟨rfl,hb5⟩
    go_simp
    refine hK.out _ _ (hHeld.trans (hb5.mono hHeld.size)) (fun hHeld=>?_)
    have hg:=(hb5.block _ (Ad hg)).trans hg
    clear hK K
    refine Ai (i:=5) rfl (by kernel_rfl) rfl (fun K hK=>?_)
    refine Hy _ 359 (.tmp 5) (.tmp 11) rfl _ (uc T.list) rfl rfl 359 _ hg hci hcs (Ea _) ?_
    intro w6 hrow hg6
    refine hK.out _ _ (hHeld.grown hg6 hHeld.size (by intro k hk; injection hk with hk; subst hk; exact hge)) (fun hHeld=>?_)
    clear hK K
    refine wpAnyH_done (by kernel_rfl) ?_ _
    simp only [Act.put]
    go_wp2_with fail
    go_meet
    exact ⟨_,rfl,hge,hrow,hHeld⟩
  ·have hge:=hHeld.size
   go_simp
   refine hK.out _ _ (hHeld.alloc hHeld.size _) (fun hHeld=>?_)
   have hg:=heap_last w3.drew (Obj.cells (uc [0,0,0,0,0,0,0,0]) 359) _ rfl
   clear hK K
   refine Ai (i:=2) rfl (by kernel_rfl) rfl (fun K hK=>?_)
   go_simp
   refine (hsp _).mono ?_
   rintro e1 w4 ⟨rfl,hb4⟩
   go_simp
   refine hK.out _ _ (hHeld.trans (hb4.mono hHeld.size)) (fun hHeld=>?_)
   have hg:=(hb4.block _ (Ad hg)).trans hg
   clear hK K
   refine Ai (i:=3) rfl (by kernel_rfl) rfl (fun K hK=>?_)
   go_simp
   refine (hrd _ (hT3.keep hHeld hz0)).mono ?_
   rintro e1 w5 ⟨rfl,hb5⟩
   go_simp
   refine hK.out _ _ (hHeld.trans (hb5.mono hHeld.size)) (fun hHeld=>?_)
   have hg:=(hb5.block _ (Ad hg)).trans hg
   clear hK K
   refine Ai (i:=5) rfl (by kernel_rfl) rfl (fun K hK=>?_)
   refine Hy _ 359 (.tmp 5) (.tmp 11) rfl _ (uc T.list) rfl rfl 359 _ hg hci hcs (Ea _) ?_
   intro w6 hrow hg6
   refine hK.out _ _ (hHeld.grown hg6 hHeld.size (by intro k hk; injection hk with hk; subst hk; exact hge)) (fun hHeld=>?_)
   clear hK K
   refine wpAnyH_done (by kernel_rfl) ?_ _
   simp only [Act.put]
   go_wp2_with fail
   go_meet
   exact ⟨_,rfl,hge,hrow,hHeld⟩
 case rest=>
  revert hcut
  generalize wc=wr
  intro hcut
  obtain ⟨g,rfl,hge,hrow,hb⟩:=hcut
  clear hb3
  have hbw : Below w.heap.size w wr:=HB.out.trans (hb.mono HB.out.size)
  have f0' : wr.heap[w.heap.size]? = some (.cells (uc (acc s.list T.list 0)) 359):=by
   rw [hb.block _ (Ad f0),f0,← hC,acc_zero]
  have f2':=(hb.block _ (Ad f2)).trans f2
  have hgn : g≠w.heap.size:=by have:=HZ.out; omega
  have hR : MX w s T 0 wr:=⟨hbw,f0',f2'⟩
  have hi : (Tryz.prog.info? 359).map (·.size)=some (uc T.list).size:=Tryz.infoEight
  have hget : ∀ k,k<8→(uc T.list)[k]? = some (.int .u32 (u (T.list.getD k 0))):=fun k hk=>Eo _ _ hk
  clear f0 f1 f2 f0' f2' hbw hb
  generalize uc T.list=E at *
  go_wp2_with (refine wpList_load_row rfl 359 (.tmp 5) rfl _ rfl 359 E (0,0) _ hrow Tryz.underlying359 rfl hi ?_)
  go_loopw [13] (fun t wr=>∃ k : Nat,k≤8∧t = .int .i64 k∧MX w s T k wr) (fun t _=>8 - (intOf t).toNat)
  case atStart=>exact ⟨0,by omega,rfl,hR⟩
  case round=>
   clear hR
   obtain ⟨k,hk,rfl,hR⟩:=hrel
   have hp:=Fc
   have hp':=u_add'
   by_cases hlt : k<8
   ·obtain ⟨hc,hf⟩:=hR.cell hlt
    have hE:=index35 wr E k _ hlt (hget k hlt)
    have HN:=Ac (hR.store hlt)
    clear hget hrow hi hR
    generalize s.list.getD k 0=x at *
    generalize T.list.getD k 0=y at *
    go_wp2
    go_roundw
    case rel=>exact ⟨k+1,by omega,by go_num,HN.out⟩
    case measure=>simp [intOf]; omega
   ·obtain rfl : k=8:=by omega
    clear hget hrow hi
    obtain ⟨hbw,hA,hB⟩:=hR
    rw [acc_all] at hA
    generalize hRe : s.add T=R at *
    have HR:=Ac hRe
    clear hRe
    have hi : (Tryz.prog.info? 359).map (·.size)=some (uc R.list).size:=Tryz.infoEight
    have hs8 : (uc [0,0,0,0,0,0,0,0]).size=(uc R.list).size:=rfl
    have HO:=Ac (Ea R.list)
    have HE : Hid (uc (s.add T).list=uc R.list):=by show _=_; rw [HR.out]
    generalize uc R.list=F at *
    go_wp2_with (first | (refine wpList_load_row rfl 359 (.tmp 2) rfl _ rfl 359 F (0,0) _ hA Tryz.underlying359 rfl hi ?_) | (refine Fe _ rfl 359 (.tmp 4) (.tmp 24) rfl _ F rfl rfl 359 _ hB hi hs8 HO.out ?_; intro w2 hrow2 hg2))
    have hb2:=hbw.grown hg2 hbw.size (by intro k hk; injection hk with hk; omega)
    refine bodyPost_ret (v:=.agg F) (results_cell_row rfl _ _ _ _ _ _ _ rfl hrow2 Tryz.underlying359 rfl hi) rfl ⟨I0 HE.out.symm,hb2⟩
theorem mixed_any (w : World) (s : St) (l : List UInt8) (hl : l.length=64) (hT : Bh w) :
  Calls Tryz.prog 280 #[.agg (uc s.list), .agg (bc l).toArray] w fun e w'=>e = .returned (.agg (uc (comp s l).list))∧Below w.heap.size w w':=
 mixed_gen w s l hl hT (ext (Aw l) 48) (rds (ext (Aw l) 48) s 64) (fun w=>spread_any w l hl) (fun w hw=>rounds_any w s (ext (Aw l) 48) (by rw [Ir,Gw]) hw)
end Go.Proofs.YtckejblkppllaaaGreatDoor
namespace Go.Proofs.YtckejblkppllaaaGreatDoor
open Go.RowKit
theorem byte_u (n : UInt32) (k : UInt32) (j : Nat) (hj : k.toNat=j) (h : j<32) : u n / 2 ^ j % 256=(((n >>> k).toUInt8).toNat : Int):=by
 rw [u_shr n k j hj h]
 unfold u
 rw [UInt32.toNat_toUInt8]
 omega
theorem byte24 (n : UInt32) : u n / (16777216 : Int) % (256 : Int)=(((n >>> 24).toUInt8).toNat : Int):=byte_u n 24 24 rfl (by omega)
theorem byte16 (n : UInt32) : u n / (65536 : Int) % (256 : Int)=(((n >>> 16).toUInt8).toNat : Int):=byte_u n 16 16 rfl (by omega)
theorem byte8 (n : UInt32) : u n / (256 : Int) % (256 : Int)=(((n >>> 8).toUInt8).toNat : Int):=byte_u n 8 8 rfl (by omega)
theorem byte0 (n : UInt32) : u n % (256 : Int)=((n.toUInt8).toNat : Int):=by
 unfold u
 rw [UInt32.toNat_toUInt8]
 omega
set_option maxRecDepth 20000 in
set_option maxHeartbeats 400000 in
theorem putWord_any (w : World) (base g cap : Nat) (l : List UInt8) (n : UInt32) (hbase : base≤w.heap.size)
  (hown : w.ownsRow base 5 1 (.slice (some ⟨g,0,none⟩) l.length cap) l.length (bc l)) (hfit : l.length+4≤cap) :
  Calls Tryz.prog 281 #[.slice (some ⟨g,0,none⟩) l.length cap, .int .u32 (u n)] w fun e w'=>e = .returned (.slice (some ⟨g,0,none⟩) (l.length+4) cap) ∧
   w'.ownsRow base 5 1 (.slice (some ⟨g,0,none⟩) (l.length+4) cap) (l.length+4) (bc (l++be4 n))∧Below base w w':=by
 obtain ⟨i0,hi,hz0,hz1,hz2⟩:=info_parts Tryz.infoB
 have hg : base≤g:=(hown.lt g rfl).1
 have h24:=byte24
 have h16:=byte16
 have h8:=byte8
 have h0:=byte0
 go_enter Tryz.func281,Tryz.ntmps281
 go_wp2_with (at_builtin; refine wpList_append_fits _ rfl (.tmp 5) (.tmp 17) 137 rfl base 5 i0 1 Tryz.underlying137 hi hz1 g l.length cap (bc l) rfl (hown.alloc _) ⟨w.heap.size,0,none⟩ 4 4 (bc (be4 n)) rfl rfl ?c1 (Dn _) hfit ?_)
 case c1=>
  intro j x hj
  match j,hj with
  | 0,hj=>simp [bc,be4] at hj; subst hj; simp [Addr.add_lit]
  | 1,hj=>simp [bc,be4] at hj; subst hj; simp [Addr.add_lit]
  | 2,hj=>simp [bc,be4] at hj; subst hj; simp [Addr.add_lit]
  | 3,hj=>simp [bc,be4] at hj; subst hj; simp [Addr.add_lit]
 intro w2 hown2 hgrow2
 have hb2 : Below base w w2:=((Below.refl _ _).alloc hbase _).grown hgrow2 (by simp; omega) (by intro k hk; injection hk with hk; omega)
 rw [← Dm] at hown2
 clear hgrow2 hown
 go_wp2
 go_ret
 exact ⟨rfl,hown2,hb2⟩
end Go.Proofs.YtckejblkppllaaaGreatDoor
namespace Go.Proofs.YtckejblkppllaaaGreatDoor
open Go.RowKit
theorem Ig {a b : ByteArray} (h : a=b) : Ending.returned (.string a) = .returned (.string b):=by rw [h]
def outL (L : List UInt32) : List UInt8:=L.flatMap be4
theorem Mb (L : List UInt32) : (outL L).length=4 * L.length:=by
 induction L with
 | nil=>rfl
 | cons a r ih=>simp only [outL,List.flatMap_cons,List.length_append,List.length_cons] at ih ⊢; rw [ih]; simp [be4]; omega
theorem outL_take (L : List UInt32) (k : Nat) (h : k<L.length) : outL (L.take (k+1))=outL (L.take k)++be4 (L.getD k 0):=by
 unfold outL
 rw [List.take_succ_eq_append_getElem h,List.flatMap_append]
 simp [List.getD,h]
theorem Kn (w : World) (base g cap m : Nat) (l : List UInt8) (n : UInt32) (hm : l.length=m) (hbase : base≤w.heap.size)
  (hown : w.ownsRow base 5 1 (.slice (some ⟨g,0,none⟩) m cap) m (bc l)) (hfit : m+4≤cap) :
  Calls Tryz.prog 281 #[.slice (some ⟨g,0,none⟩) m cap, .int .u32 (u n)] w fun e w'=>e = .returned (.slice (some ⟨g,0,none⟩) (m+4) cap) ∧
   w'.ownsRow base 5 1 (.slice (some ⟨g,0,none⟩) (m+4) cap) (m+4) (bc (l++be4 n))∧Below base w w':=by
 subst hm
 exact putWord_any w base g cap l n hbase hown hfit
theorem sl_at {w : World} {base m : Nat} {v : Value} {l : List UInt8} (hm : l.length=m) (h : w.ownsRow base 5 1 v m (bc l)) : Sl w v l:=by
 subst hm
 exact Ge h
set_option maxRecDepth 20000 in
set_option maxHeartbeats 400000 in
theorem bytesOf_any (w : World) (s : St) :
  Calls Tryz.prog 258 #[.agg (uc s.list)] w fun e w'=>e = .returned (.string (Ab (out s)))∧Below w.heap.size w w':=by
 obtain ⟨i0,hi,hz0,hz1,hz2⟩:=info_parts Tryz.infoB
 have hL : s.list.length=8:=rfl
 have hE : Hid (out s=outL s.list):=rfl
 have hget : ∀ k,k<8→(uc s.list)[k]? = some (.int .u32 (u (s.list.getD k 0))):=fun k hk=>Eo _ _ hk
 have hsz : (Tryz.prog.info? 359).map (·.size)=some (uc s.list).size:=Tryz.infoEight
 generalize s.list=L at *
 generalize uc L=E at *
 go_enter Tryz.func258,Tryz.ntmps258
 go_wp2_with (first
  | (at_make; refine wpList_make_own _ rfl _ _ 137 rfl w.heap.size 5 i0 (.int .u8 0) 1 Tryz.underlying137 hi hz0 hz1 .i64 .i64 _ 32 rfl rfl (by omega) (by rw [hz2]; omega) (by unfold maxLen; omega) (by simp) ?_; intro w1 hown1 hgrow1)
  | (refine wpList_load_row rfl 359 (.tmp 1) rfl _ rfl 359 E (0,0) _ (by rw [hgrow1.block _ (by simp) (by simp)]; exact heap_last _ _ _ rfl) Tryz.underlying359 rfl hsz ?_))
 have hb1 : Below w.heap.size w w1:=((Below.refl _ _).alloc (Nat.le_refl _) _).grown hgrow1 (by simp) (by intro k hk; cases hk)
 have hown : w1.ownsRow w.heap.size 5 1 (.slice (some ⟨w.heap.size+1,0,none⟩) 0 32) 0 []:=by simpa using hown1
 clear hown1 hgrow1 hsz
 go_loopw [3,8] (fun v t wr=>∃ k : Nat,k≤8∧v = .slice (some ⟨w.heap.size+1,0,none⟩) (4 * k) 32∧t = .int .i64 k ∧
   wr.ownsRow w.heap.size 5 1 (.slice (some ⟨w.heap.size+1,0,none⟩) (4 * k) 32) (4 * k) (bc (outL (L.take k)))∧Below w.heap.size w wr)
  (fun _ t _=>8 - (intOf t).toNat)
 case atStart=>exact ⟨0,by omega,rfl,rfl,hown,hb1⟩
 case round=>
  clear hown hb1
  obtain ⟨k,hk,rfl,rfl,hown,hb⟩:=hrel
  have hlen : (outL (L.take k)).length=4 * k:=by rw [Mb]; simp; omega
  by_cases hlt : k<8
  ·have hx:=index35 wr E k _ hlt (hget k hlt)
   have hS:=Ac (outL_take L k (by omega))
   have HL:=Ac hlen
   have HB:=Ac hb
   have HO:=Ac hown
   clear hlen hget hb hown
   generalize L.getD k 0=x at *
   go_wp2_with fail
   refine (Kn _ w.heap.size _ 32 (4 * k) _ x HL.out HB.out.size HO.out (by omega)).mono ?_
   rintro e1 w2 ⟨rfl,hown2,hb2⟩
   go_wp2
   go_roundw
   case rel=>exact ⟨k+1,by omega,rfl,by go_num,by rw [hS.out]; exact hown2,HB.out.trans hb2⟩
   case measure=>simp [intOf]; omega
  ·obtain rfl : k=8:=by omega
   have hsl:=sl_at hlen hown
   rw [List.take_of_length_le (by omega)] at hsl
   clear hlen hget hown
   go_wp2_with (refine Hl _ rfl (.tmp 15) rfl hsl rfl ?_)
   go_ret
   exact ⟨Ig (by rw [hE.out]),hb⟩
theorem made_row (w : World) (n c : Nat) (h : n<c) (hc : c≤maxLen) :
  (w.alloc (.cells ((madeCells #[.int .u8 0] c).setIfInBounds 0 (.int .u8 128)) 5)).ownsRow w.heap.size 5 1 (.slice (some ⟨w.heap.size,0,none⟩) (1+n) c) (1+n) (bc (128 :: List.replicate n 0)):=by
 refine ⟨by simp [bc]; omega, .inr ⟨w.heap.size,c,_,rfl,Nat.le_refl _,heap_last _ _ _ rfl,by omega,hc,by simp [size_madeCells],?_⟩⟩
 rw [Nat.mul_one,Array.toList_setIfInBounds,toList_madeCells_one]
 obtain ⟨d,rfl⟩ : ∃ d,c=n+1+d:=⟨c - (n+1),by omega⟩
 rw [show n+1+d=(n+d)+1 from by omega,List.replicate_succ,List.set_cons_zero,show 1+n=n+1 from by omega,List.take_succ_cons,List.take_replicate]
 simp [bc]
theorem noughts (size : Nat) (_hs : size<18446744073709551616) : (IntKind.u64.wrap (55 - (size : Int))).tmod 64=(((119 - size % 64) % 64 : Nat) : Int):=by
 rw [IntKind.wrap_u64,Int.tmod_eq_emod_of_nonneg (by omega)]
 omega
theorem high32 (size : Nat) : IntKind.u64.wrap ((size : Int) * 8) / 4294967296 % 4294967296=u (UInt32.ofNat (size * 8 % 18446744073709551616 / 4294967296)):=by
 unfold u
 rw [IntKind.wrap_u64,UInt32.toNat_ofNat']
 omega
theorem low32 (size : Nat) : IntKind.u64.wrap ((size : Int) * 8) % 4294967296=u (UInt32.ofNat (size * 8 % 18446744073709551616)):=by
 unfold u
 rw [IntKind.wrap_u64,UInt32.toNat_ofNat']
 omega
theorem make9 (w : World) (n : Nat) (hn : n<64) : (Instr.makeSlice 137 (.int .u64 (1+(n : Int))) (.int .u64 (1+(n : Int)+8))).run Tryz.prog w = .ok (.slice (some ⟨w.heap.size,0,none⟩) (1+n) (1+n+8)) (w.alloc (.cells (madeCells #[.int .u8 0] (1+n+8)) 5)):=by
 obtain ⟨i0,hi,hz0,hz1,hz2⟩:=info_parts Tryz.infoB
 have:=run_make (P:=Tryz.prog) w 137 5 i0 (.int .u8 0) Tryz.underlying137 hi hz0 .u64 .u64 (1+(n : Int)) (1+(n : Int)+8) (by omega) (by omega) (by rw [hz2]; omega) (by omega)
 rw [this,hz1,show (1+(n : Int)).toNat=1+n from by omega,show (1+(n : Int)+8).toNat=1+n+8 from by omega,Nat.mul_one]
 rfl
set_option maxRecDepth 20000 in
set_option maxHeartbeats 400000 in
theorem ending_any (w : World) (size : Nat) (hs : size<18446744073709551616) :
  Calls Tryz.prog 257 #[.int .u64 size] w fun e w'=>e = .returned (.string (Ab (Df size)))∧Below w.heap.size w w':=by
 obtain ⟨i0,hi,hz0,hz1,hz2⟩:=info_parts Tryz.infoB
 have hno:=noughts size hs
 have hT : Df size=(128 :: List.replicate ((119 - size % 64) % 64) 0)++(be4 (UInt32.ofNat (size * 8 % 18446744073709551616 / 4294967296))++be4 (UInt32.ofNat (size * 8 % 18446744073709551616))):=by
  unfold Df
  rw [List.cons_append]
 have HS:=Ac hs
 have HT:=Ac hT
 have hn : (119 - size % 64) % 64<64:=Nat.mod_lt _ (by omega)
 clear hs hT
 generalize (119 - size % 64) % 64=n at *
 have hmk:=make9
 have hc0 : (madeCells #[.int .u8 0] (1+n+8))[0]? = some (.int .u8 0):=by
  rw [← Array.getElem?_toList,toList_madeCells_one,show 1+n+8=(n+8)+1 from by omega,List.replicate_succ]
  rfl
 have hhi:=high32 size
 have hlo:=low32 size
 generalize UInt32.ofNat (size * 8 % 18446744073709551616 / 4294967296)=a at *
 generalize UInt32.ofNat (size * 8 % 18446744073709551616)=b at *
 go_enter Tryz.func257,Tryz.ntmps257
 go_wp2_with fail
 clear hhi hno hmk hc0
 refine (Kn _ w.heap.size _ (1+n+8) (1+n) _ a (by simp; omega) (by simp) (made_row w n (1+n+8) (by omega) (by unfold maxLen; omega)) (by omega)).mono ?_
 rintro e1 w1 ⟨rfl,hown1,hb1⟩
 go_wp2_with fail
 refine (Kn _ w.heap.size _ (1+n+8) (1+n+4) _ b (by simp [be4]; omega) (by have:=hb1.size; simp at this; omega) hown1 (by omega)).mono ?_
 rintro e1 w2 ⟨rfl,hown2,hb2⟩
 have hsl:=sl_at (by simp [be4]; omega) hown2
 have hb:=(((Below.refl _ _).alloc (Nat.le_refl _) _).trans hb1).trans hb2
 clear hown1 hown2 hb1 hb2
 rw [List.append_assoc,← HT.out] at hsl
 go_wp2_with (refine Hl _ rfl (.tmp 25) rfl hsl rfl ?_)
 go_ret
 exact ⟨rfl,hb⟩
end Go.Proofs.YtckejblkppllaaaGreatDoor
namespace Go.Proofs.YtckejblkppllaaaGreatDoor
open Go.RowKit
theorem Ll (s : St) (l r : List UInt8) : ∀ n,64 * n≤l.length→mix s (l++r) n=mix s l n
 | 0,_=>rfl
 | n+1,h=>by
  simp only [mix]
  rw [Ll s l r n (by omega),List.drop_append_of_le_length (by omega),List.take_append_of_le_length (by simp; omega)]
def mcL (s : St) (B : List UInt8) (h : Nat) : List Value:=(uc s.list).toList++(bc B ++ [.int .i64 (h : Int)])
theorem ucl (s : St) : (uc s.list).toList.length=8:=rfl
theorem Kz (s : St) (B : List UInt8) (h : Nat) (hB : B.length=64) : (mcL s B h).length=73:=by
 simp only [mcL,List.length_append,ucl,Di,hB,List.length_cons,List.length_nil]
theorem Iz (s : St) (B : List UInt8) (h : Nat) (hB : B.length=64) : (mcL s B h)[72]? = some (.int .i64 (h : Int)):=by
 unfold mcL
 rw [List.getElem?_append_right (by rw [ucl]; omega),ucl,List.getElem?_append_right (by rw [Di,hB]; omega),Di,hB]
 rfl
theorem mcL_set (s : St) (B : List UInt8) (h k : Nat) (hB : B.length=64) : (mcL s B h).set 72 (.int .i64 (k : Int))=mcL s B k:=by
 unfold mcL
 rw [List.set_append_right _ _ (by rw [ucl]; omega),ucl,List.set_append_right _ _ (by rw [Di,hB]; omega),Di,hB]
 rfl
theorem mcL_copy (s : St) (B : List UInt8) (h n : Nat) (R : List UInt8) (hB : B.length=64) (hR : R.length=n) (hn : h+n≤64) :
  (mcL s B h).take (8+h)++bc R++(mcL s B h).drop (8+h+n)=mcL s (B.take h++R++B.drop (h+n)) h:=by
 unfold mcL
 rw [List.take_append,ucl,List.take_of_length_le (by rw [ucl]; omega),show 8+h - 8=h from by omega,List.take_append_of_le_length (by rw [Di]; omega),
  List.drop_append,ucl,List.drop_eq_nil_of_le (by rw [ucl]; omega),show 8+h+n - 8=h+n from by omega,List.drop_append_of_le_length (by rw [Di]; omega)]
 simp [bc,List.map_take,List.map_drop]
theorem Li (s : St) (B : List UInt8) (h : Nat) : (mcL s B h).take 8=(uc s.list).toList:=by
 unfold mcL
 rw [List.take_append_of_le_length (by rw [ucl]; omega),List.take_of_length_le (by rw [ucl]; omega)]
theorem mcL_block (s : St) (B : List UInt8) (h : Nat) (hB : B.length=64) : ((mcL s B h).drop 8).take 64=bc B:=by
 unfold mcL
 rw [List.drop_left' (ucl s),List.take_append_of_le_length (by rw [Di]; omega),List.take_of_length_le (by rw [Di]; omega)]
theorem mcL_put (s t : St) (B : List UInt8) (h : Nat) : (mcL s B h).take 0++(uc t.list).toList++(mcL s B h).drop (0+8)=mcL t B h:=by
 unfold mcL
 rw [List.take_zero,List.nil_append,Nat.zero_add,List.drop_left' (ucl s)]
def Fed (w : World) (g : Nat) (l : List UInt8) : Prop:=
 ∃ B,w.heap[g]? = some (.cells (mcL (mix st0 l (l.length / 64)) B (l.length % 64)).toArray 362)∧B.length=64∧B.take (l.length % 64)=l.drop (64 * (l.length / 64))
theorem feed_some (l B r : List UInt8) (n : Nat) (hB : B.length=64) (ht : B.take (l.length % 64)=l.drop (64 * (l.length / 64))) (hr : r.length=n) (hn : l.length % 64+n<64) :
  (l++r).length % 64=l.length % 64+n∧mix st0 (l++r) ((l++r).length / 64)=mix st0 l (l.length / 64) ∧
   (B.take (l.length % 64)++r++B.drop (l.length % 64+n)).length=64∧(B.take (l.length % 64)++r++B.drop (l.length % 64+n)).take ((l++r).length % 64)=(l++r).drop (64 * ((l++r).length / 64)):=by
 have e1 : (l++r).length / 64=l.length / 64:=by rw [List.length_append,hr]; omega
 have e2 : (l++r).length % 64=l.length % 64+n:=by rw [List.length_append,hr]; omega
 refine ⟨e2,?_,?_,?_⟩
 ·rw [e1,Ll _ _ _ _ (by omega)]
 ·simp [hB,hr]; omega
 ·have hl : (B.take (l.length % 64)++r).length=l.length % 64+n:=by simp [hB,hr]; omega
  rw [e1,e2,List.drop_append_of_le_length (by omega),← ht,← hl,List.take_left]
theorem feed_full (l B r : List UInt8) (n : Nat) (hB : B.length=64) (ht : B.take (l.length % 64)=l.drop (64 * (l.length / 64))) (hr : r.length=n) (hn : l.length % 64+n=64) :
  (l++r).length % 64=0∧mix st0 (l++r) ((l++r).length / 64)=comp (mix st0 l (l.length / 64)) (B.take (l.length % 64)++r++B.drop (l.length % 64+n)) ∧
   (B.take (l.length % 64)++r++B.drop (l.length % 64+n)).length=64∧(l++r).drop (64 * ((l++r).length / 64)) = []:=by
 have e1 : (l++r).length / 64=l.length / 64+1:=by rw [List.length_append,hr]; omega
 refine ⟨by rw [List.length_append,hr]; omega,?_,by simp [hB,hr]; omega,?_⟩
 ·rw [e1]
  simp only [mix]
  rw [Ll _ _ _ _ (by omega),List.drop_append_of_le_length (by omega),← ht,hn,List.drop_eq_nil_of_le (by omega),List.append_nil,List.take_of_length_le (by simp [hB,hr]; omega)]
 ·rw [List.drop_eq_nil_of_le (by rw [e1,List.length_append,hr]; omega)]
theorem run_copy_min {P : Program} (w : World) (dT sT ty elem : TypeId) (g o dLen dCap n : Nat) (s : ByteArray) (cur : Array Value) (t : TypeId)
  (hu : P.underlying dT=some (.slice elem)) (hs : (P.info? elem).map (·.size)=some 1) (hg : w.heap[g]? = some (.cells cur t (0,0))) (hn : Nat.min s.size dLen=n) (hfit : o+n≤cur.size) :
  (Builtin.copy_ #[dT,sT] ty #[.slice (some ⟨g,o,none⟩) dLen dCap, .string s]).run P w =
   .ok (.int .i64 (n : Int)) (w.setRow g (cur.toList.take o++bc (s.data.toList.take n)++cur.toList.drop (o+n)).toArray):=by
 have hle : n≤s.size:=by rw [← hn]; exact Nat.min_le_left s.size dLen
 have hlen : (bc (s.data.toList.take n)).length=n:=by
  rw [Di,List.length_take]
  have : s.data.toList.length=s.size:=by simp
  omega
 have hst:=run_storeCells_at P g o t (bc (s.data.toList.take n)) 0 cur w hg (by rw [hlen]; simpa using hfit) (Dn _)
 have htk : List.take n (List.map (fun b : UInt8=>Value.int IntKind.u8 (b.toNat : Int)) s.data.toList)=bc (s.data.toList.take n):=by
  simp [bc,List.map_take]
 rw [hlen] at hst
 simp only [Nat.add_zero] at hst
 cases hq : P.info? elem with
 | none=>simp [hq] at hs
 | some i=>
  simp [Builtin.copy_,run_underlying hu,Builtin.lenOf,Builtin.firstCells,sizeOf,typeInfo,hq,hn]
  rw [htk,hst]
  simp [Result.andThen,goInt]
theorem Om {P : Program} (w : World) (g o : Nat) (ty t : TypeId) (cur c : Array Value) (hg : w.heap[g]? = some (.cells cur t (0,0))) (hi : (P.info? ty).map (·.size)=some c.size) (hfit : o+c.size≤cur.size) (h1 : c.all (·.oneCell')=true) :
  (storeVar ty ⟨g,o,none⟩ (.agg c)).run P w = .ok () (w.setRow g (cur.toList.take o++c.toList++cur.toList.drop (o+c.size)).toArray):=by
 have hst:=run_storeCells_at P g o t c.toList 0 cur w hg (by simpa using hfit) (fun v hv=>(Array.all_eq_true_iff_forall_mem.1 h1) v (by simpa using hv))
 simp only [Nat.add_zero,Array.length_toList] at hst
 cases hq : P.info? ty with
 | none=>simp [hq] at hi
 | some i=>
  have hs : i.size=c.size:=by simpa [hq] using hi
  simp [storeVar,sizeOf,typeInfo,hq,Value.cells,hs,hst]
theorem strB_drop (l : List UInt8) (n : Nat) : (Ab l).extract n l.length=Ab (l.drop n):=by
 unfold Ab
 apply ByteArray.ext
 rw [ByteArray.data_extract]
 simp
 exact List.take_of_length_le (by simp)
theorem Ph {P : Program} (w : World) (op : Oper) (a : Act) (ty : TypeId) (x : Operand) (ho : op.op = .load ty x) (g o : Nat) (hx : a.eval x = .pointer (some ⟨g,o,none⟩)) (t : TypeId) (C cs : List Value) (k : Nat) (fr : Nat × Nat) (d : TypeDesc)
  (hg : w.heap[g]? = some (.cells C.toArray t fr)) (hcs : (C.drop o).take k=cs) (hu : P.underlying ty=some d) (hd : d.isRow=true) (hi : (P.info? ty).map (·.size)=some cs.length) :
  (execOp a.eval op).run P w = .ok (.value (.agg cs.toArray)) w:=by
 have hr : w.rangeAt g o cs:=by
  intro j v hj
  rw [cell_of_row _ _ _ _ _ _ hg,List.getElem?_toArray]
  rw [← hcs] at hj
  have hlt:=(List.getElem?_eq_some_iff.1 hj).1
  rw [List.getElem?_take_of_lt (by simp at hlt; omega),List.getElem?_drop] at hj
  exact hj
 unfold execOp
 simp only [ho,hx,Instr.loadAt,Instr.sureAddr,Sem.run_bind,Sem.run_pure,Result.andThen_ok,run_loadVar_mid w g o ty cs d hr hu hd hi]
theorem He {P : Program} (w : World) {op : Oper} {a : Act} {K : Act→World→Prop} {Q : Exit→Act→World→Prop} (ty : TypeId) (x : Operand) (ho : op.op = .load ty x) (g o : Nat) (hx : a.eval x = .pointer (some ⟨g,o,none⟩)) (t : TypeId) (C cs : List Value) (k : Nat) (fr : Nat × Nat) (d : TypeDesc)
  (hg : w.heap[g]? = some (.cells C.toArray t fr)) (hcs : (C.drop o).take k=cs) (hu : P.underlying ty=some d) (hd : d.isRow=true) (hi : (P.info? ty).map (·.size)=some cs.length)
  (h : K (a.put op.dst (.agg cs.toArray)) w) : op.wp P a w K Q:=by
 unfold Oper.wp
 rw [Ph w op a ty x ho g o hx t C cs k fr d hg hcs hu hd hi]
 exact h
theorem On {P : Program} (w : World) {ops : Array Oper} {rest : List Oper} {op : Oper} {a : Act} {Q : Exit→Act→World→Prop} (hgd : op.guard=none) (ty : TypeId) (x : Operand) (ho : op.op = .load ty x) (g o : Nat) (hx : a.eval x = .pointer (some ⟨g,o,none⟩)) (t : TypeId) (C cs : List Value) (k : Nat) (fr : Nat × Nat) (d : TypeDesc)
  (hg : w.heap[g]? = some (.cells C.toArray t fr)) (hcs : (C.drop o).take k=cs) (hu : P.underlying ty=some d) (hd : d.isRow=true) (hi : (P.info? ty).map (·.size)=some cs.length)
  (h : wpList P ops Q rest (a.put op.dst (.agg cs.toArray)) w) : wpList P ops Q (op :: rest) a w:=
 wpList_plain hgd fun _ hK=>He w ty x ho g o hx t C cs k fr d hg hcs hu hd hi (hK _ _ h)
theorem Mc {P : Program} (w : World) {op : Oper} {a : Act} {K : Act→World→Prop} {Q : Exit→Act→World→Prop} (ty : TypeId) (x y : Operand) (ho : op.op = .store ty x y)
  (g o : Nat) (c : Array Value) (hx : a.eval x = .pointer (some ⟨g,o,none⟩)) (hy : a.eval y = .agg c) (t : TypeId) (C : List Value) (hg : w.heap[g]? = some (.cells C.toArray t (0,0)))
  (hi : (P.info? ty).map (·.size)=some c.size) (hfit : o+c.size≤C.length) (h1 : c.all (·.oneCell')=true)
  (h : ∀ w',w'.heap[g]? = some (.cells (C.take o++c.toList++C.drop (o+c.size)).toArray t (0,0))→w.grownBy w' (some g)→K (a.put op.dst undef) w') : op.wp P a w K Q:=by
 unfold Oper.wp execOp
 simp only [ho,hx,hy,Instr.storeAt,Instr.sureAddr,Sem.run_bind,Sem.run_pure,Result.andThen_ok,Om w g o ty t C.toArray c hg hi (by simpa using hfit) h1]
 exact h _ (by rw [setRow_heap w g _ _ t (0,0) hg]) ⟨rfl,rfl,rfl,by simp,fun k _ hk=>setRow_other w g k _ (fun e=>hk (by simp [e]))⟩
end Go.Proofs.YtckejblkppllaaaGreatDoor
