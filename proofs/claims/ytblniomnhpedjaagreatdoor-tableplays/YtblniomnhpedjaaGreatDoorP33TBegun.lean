/-
  The law's begun: a table on a new disk. Conditions: the table of sums holds its numbers.
-/
import Derived.Test.YtblniomnhpedjaaGreatDoorP32TShown
import Derived.Test.YtblniomnhpedjaaGreatDoorP31TLog
namespace Go.Proofs.YtblniomnhpedjaaGreatDoor
open Go.RowKit
def B6 : Nm:=[116,97,98]
theorem Fi : Cj B6=true:=by decide
def C9 (w : World) (x d t r : Nat) (f : Value) (tight bad : Bool) (most last : Int) : Prop:=w.heap[x]? = some (.cells #[.pointer (some ⟨d,0,none⟩), .pointer (some ⟨t,0,none⟩), .pointer (some ⟨r,0,none⟩),f, .bool tight, .bool bad, .int .i64 most, .int .i64 last] 36)
def Dm : Nat:=67108864
theorem rtab_none {w : World} {r : Nat} (h : w.heap[r]? = some (.cells #[.slice none 0 0] 70)) : Cr w r []:=⟨_,h,none,0,rfl,by simp,by simp,fun h=>absurd rfl h⟩
set_option maxRecDepth 20000 in
set_option maxHeartbeats 1600000 in
theorem begun_new (B : Nat) (w : World) (hB0 : 0<B) (hB : B≤w.heap.size) (hT : Bm w) : Calls Tryz.prog 11 #[] w fun e w'=>∃ x d t b g r F S,e = .returned (.tuple #[.pointer (some ⟨x,0,none⟩), .bool true])∧C9 w' x d t r (.slice none 0 0) false false 0 0 ∧
  Bt B w' F d g t b B6 S [] 1 Dm∧S=(Dk.new Dm).begun∧w'.heap[r]? = some (.cells #[.slice none 0 0] 70)∧(∀ k,F k→w.heap.size≤k∧k<r)∧(w.heap.size≤g∧g<r)∧(w.heap.size≤t∧t<r)∧(w.heap.size≤b∧b<r)∧w.heap.size≤r∧r<x∧x<w'.heap.size∧Below w.heap.size w w':=by
 have HT:=Ab hT
 clear hT
 have hnew:=new_lies2 (B:=B) w hB Dm (by decide)
 have hnew : Calls Tryz.prog 35 #[.int .i64 67108864] w _:=hnew
 go_enter Tryz.func11,Tryz.ntmps11
 go_wp2_with fail
 refine hnew.mono ?_
 rintro e w1 ⟨rfl,hs1,hc1⟩
 have hb1 : Below w.heap.size w w1:=hc1.below (fun _ h=>h.elim) (Nat.le_refl _)
 have hop:=Lv hs1 (on_new (z:=B6) Dm) tab_none (by decide) (calm_new Dm) Fi (Nat.le_trans hB hc1.size) hB0 (HT.out.keep hb1) (by decide)
 have hop : Calls Tryz.prog 14 #[.pointer (some ⟨w.heap.size,0,none⟩), .string ⟨#[116,97,98]⟩] w1 _:=hop
 go_wp2_with fail
 refine hop.mono ?_
 rintro e w2 ⟨t,b,g,F2,rfl,hC2,hf2,ht2,hb2,hg2,hc2⟩
 have hC2 : Bt B w2 F2 w.heap.size g t b B6 (Dk.new Dm).begun [] 1 Dm:=hC2
 have hB2 : Below w.heap.size w w2:=hb1.trans (hc2.below (fun k hk=>Nat.le_of_eq hk.symm) hb1.size)
 have hlow:=hC2.low
 have hs1':=hc1.size
 clear hnew hop hc2 hs1 hc1
 have hq3:=Fd w2 (.cells #[.slice none 0 0] 70)
 have hr3:=Au w2 (.cells #[.slice none 0 0] 70)
 have hz3 : (w2.alloc (.cells #[.slice none 0 0] 70)).heap.size=w2.heap.size+1:=by simp
 have hC3:=hC2.quiet hq3
 have hB3:=hB2.alloc hB2.size (.cells #[.slice none 0 0] 70)
 clear hC2
 generalize hw3 : w2.alloc (.cells #[.slice none 0 0] 70)=w3 at *
 have hq4:=Fd w3 (.cells #[.pointer (some ⟨w.heap.size,0,none⟩), .pointer (some ⟨t,0,none⟩), .pointer (some ⟨w2.heap.size,0,none⟩), .slice none 0 0, .bool false, .bool false, .int .i64 0, .int .i64 0] 36)
 have hx4:=Au w3 (.cells #[.pointer (some ⟨w.heap.size,0,none⟩), .pointer (some ⟨t,0,none⟩), .pointer (some ⟨w2.heap.size,0,none⟩), .slice none 0 0, .bool false, .bool false, .int .i64 0, .int .i64 0] 36)
 have HF:=Ab (And.intro hx4 (And.intro (hC3.quiet hq4) (And.intro (hq4.keep hr3 (fun h=>h)) (hB3.alloc hB3.size (.cells #[.pointer (some ⟨w.heap.size,0,none⟩), .pointer (some ⟨t,0,none⟩), .pointer (some ⟨w2.heap.size,0,none⟩), .slice none 0 0, .bool false, .bool false, .int .i64 0, .int .i64 0] 36)))))
 have HL:=Ab (And.intro hlow (And.intro hz3 hB2.size))
 clear hq3 hr3 hC3 hB3 hq4 hx4 hB2 hlow hz3
 go_wp2
 go_ret2
 have hlow:=HL.out.1
 have hz3:=HL.out.2.1
 have hsz:=HL.out.2.2
 refine ⟨w3.heap.size,w.heap.size,t,b,g,w2.heap.size,F2,_,?_,HF.out.1,HF.out.2.1,rfl,HF.out.2.2.1,fun k hk=>⟨?_,(hlow.1 k hk).2⟩,⟨by omega,hlow.2.1.2⟩,⟨by omega,hlow.2.2.1.2⟩,⟨by omega,hlow.2.2.2.2⟩,hsz,by omega,by simp,HF.out.2.2.2⟩
 ·first
   | rfl
   | rw [hz3]
 ·rcases hf2 k hk with e | e
  ·exact Nat.le_of_eq e.symm
  ·omega
end Go.Proofs.YtblniomnhpedjaaGreatDoor
