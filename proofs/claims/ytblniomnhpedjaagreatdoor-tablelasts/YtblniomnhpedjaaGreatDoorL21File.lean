/-
  What is done to a log's file: read, beginning, length, tidy, settle. Conditions: the disk stands, within bounds; the log lies beside it.
-/
import Derived.Test.YtblniomnhpedjaaGreatDoorL16ReadAt
import Derived.Test.YtblniomnhpedjaaGreatDoorL20Recs2
namespace Go.Proofs.YtblniomnhpedjaaGreatDoor
open Go.RowKit
variable {B : Nat} {w w' : World} {F : Nat→Prop} {d l : Nat} {S : Dk} {n : Nm}
def Ao : Nm:=[126,97,110,101,119]
def LogAt (w : World) (l d : Nat) (n : Nm) (sure : Bool) (wh sz : Int) : Prop:=
 w.heap[l]? = some (.cells #[.pointer (some ⟨d,0,none⟩), .string (Ae n), .bool sure, .int .i64 wh, .int .i64 sz] 129)
theorem LogAt.keep {sure : Bool} {wh sz : Int} {X : Nat→Prop} (h : LogAt w l d n sure wh sz) (hc : Chg X w w') (hX : ¬ X l) : LogAt w' l d n sure wh sz:=hc.keep h hX
theorem str_app (a b : List UInt8) : Ae a++Ae b=Ae (a++b):=by
 apply ByteArray.ext
 simp [Ae]
theorem str_anew (n : Nm) : Ae n++(ByteArray.mk #[126,97,110,101,119])=Ae (n++Ao):=str_app n Ao
theorem str_room {n : Nm} (h : n.length≤70) : ¬ 9223372036854775807<(Ae n).size+5:=by
 have : (Ae n).size=n.length:=by simp [Ae,ByteArray.size]
 omega
def Av (S : Dk) (n : Nm) : Dk × Int:=if S.size (n++Ao)<0 then (S,0) else S.remove (n++Ao)
def Be (S : Dk) (sure : Bool) : Dk × Bool × Int:=if sure=true then (S,true,0) else (S.syncDir.1,S.syncDir.2 == 0,S.syncDir.2)
theorem Bn.drew (h : Bn B w F d S) : Bn B w.drew F d S:=h.keep ((Chg.refl (fun _=>False) _).drew) (fun _ _ h=>h)
structure Lw where
 n : Nm
 sure : Bool
 wh : Int
 sz : Int
variable {L : Lw}
def Lg (B : Nat) (w : World) (F : Nat→Prop) (d l : Nat) (S : Dk) (L : Lw) : Prop:=Bn B w F d S∧LogAt w l d L.n L.sure L.wh L.sz∧¬ F l∧B≤l∧L.n.length≤70
def Bu (B : Nat) (w : World) (F : Nat→Prop) (d l : Nat) (S : Dk) (L : Lw) (w' : World) : Prop:=∃ F',Lg B w' F' d l S L∧(∀ k,F' k→F k∨w.heap.size≤k)∧Chg (fun k=>F k∨k=l) w w'
theorem Lg.lt (h : Lg B w F d l S L) : l<w.heap.size:=At h.2.1
theorem Lg.size (h : Lg B w F d l S L) : B≤w.heap.size:=by have:=h.lt; have:=h.2.2.2.1; omega
theorem Lg.keep {X : Nat→Prop} (h : Lg B w F d l S L) (hc : Chg X w w') (hX : ∀ k,F k→¬ X k) (hl : ¬ X l) : Lg B w' F d l S L:=⟨h.1.keep hc hX,h.2.1.keep hc hl,h.2.2⟩
theorem Lg.drew (h : Lg B w F d l S L) : Lg B w.drew F d l S L:=h.keep ((Chg.refl (fun _=>False) _).drew) (fun _ _ h=>h) (fun h=>h)
theorem Lg.refl (h : Lg B w F d l S L) : Bu B w F d l S L w:=⟨F,h,fun _ h=>.inl h,Chg.refl _ _⟩
theorem Bu.drewn (h : Bu B w.drew F d l S L w') : Bu B w F d l S L w':=by
 obtain ⟨F',h1,h2,h3⟩:=h
 exact ⟨F',h1,h2,h3.undrew⟩
theorem Bu.drew (h : Bu B w F d l S L w') : Bu B w F d l S L w'.drew:=by
 obtain ⟨F',h1,h2,h3⟩:=h
 exact ⟨F',h1.drew,h2,h3.drew⟩
theorem Bu.next {S' : Dk} {L' : Lw} {w1 w2 : World} {F1 : Nat→Prop} (h1 : Chg (fun k=>F k∨k=l) w w1) (h2 : ∀ k,F1 k→F k∨w.heap.size≤k) (h : Bu B w1 F1 d l S' L' w2) : Bu B w F d l S' L' w2:=by
 obtain ⟨F',h3,h4,h5⟩:=h
 refine ⟨F',h3,fun k hk=>?_,h1.trans h5 fun i hi hn=>?_⟩
 ·rcases h4 k hk with h | h
  ·exact h2 k h
  ·exact .inr (Nat.le_trans h1.size h)
 ·rcases hn with hn | hn
  ·rcases h2 i hn with h | h
   ·exact .inl h
   ·omega
  ·exact .inr hn
theorem Lg.next {S' : Dk} {F' : Nat→Prop} (h : Lg B w F d l S L) (h1 : Bn B w' F' d S') (h2 : ∀ k,F' k→F k∨w.heap.size≤k) (h3 : Chg F w w') : Lg B w' F' d l S' L:=by
 have hl:=h.lt
 refine ⟨h1,h.2.1.keep h3 h.2.2.1,fun hf=>?_,h.2.2.2⟩
 rcases h2 l hf with hf | hf
 ·exact h.2.2.1 hf
 ·omega
theorem Lg.after {S' : Dk} (h : Lg B w F d l S L) (ha : Dc B w F d S' w') : Bu B w F d l S' L w':=by
 obtain ⟨F',h1,h2,h3⟩:=ha
 exact ⟨F',h.next h1 h2 h3,h2,h3.mono fun _ _ h=>.inl h⟩
theorem Bu.below (h : Bu B w F d l S L w') {S0 : Dk} {L0 : Lw} (h0 : Lg B w F d l S0 L0) : Below B w w':=by
 obtain ⟨F',h1,h2,h3⟩:=h
 refine h3.below (fun k hk=>?_) h0.size
 rcases hk with hk | rfl
 ·exact (h0.1.2.1 k hk).1
 ·exact h0.2.2.2.1
theorem Lg.put (h : Lg B w F d l S L) (sure : Bool) : Bu B w F d l S { L with sure:=sure } (w.setCell ⟨l,2,none⟩ (.bool sure)):=by
 have hc : Chg (fun k=>k=l) w (w.setCell ⟨l,2,none⟩ (.bool sure)):=(Chg.refl (fun k=>k=l) w).setCell (p:=⟨l,2,none⟩) (.inl rfl) _
 refine ⟨F,⟨h.1.keep hc (fun k hk e=>h.2.2.1 (e ▸ hk)),Ax h.2.1 2 (.bool sure),h.2.2⟩,fun _ h=>.inl h,hc.mono fun _ _ h=>.inr h⟩
set_option maxRecDepth 20000 in
set_option maxHeartbeats 800000 in
theorem Hb (h : Lg B w F d l S L) (hb : S.bulk+1<1099511627776) :
  Calls Tryz.prog 119 #[.pointer (some ⟨l,0,none⟩)] w fun e w'=>e = .returned (.int .i64 (Av S L.n).2)∧Bu B w F d l (Av S L.n).1 L w':=by
 have hsz:=size_lies h.1.drew (L.n++Ao)
 have hrm:=remove_lies h.1.drew.drew h.size (L.n++Ao) hb
 have x0:=Ad h.2.1 0
 have x1:=Ad h.2.1 1
 have hsa:=str_anew L.n
 have hns:=str_room h.2.2.2.2
 have H:=Ab h
 clear h
 unfold Av
 by_cases hs : S.size (L.n++Ao)<0
 ·rw [if_pos hs]
  go_enter Tryz.func119,Tryz.ntmps119
  go_wp2
  refine wp_region_held_drew (S:=fun W=>W.cell? ⟨l,0,none⟩=some (.pointer (some ⟨d,0,none⟩))∧W.cell? ⟨l,1,none⟩=some (.string (Ae L.n))) (by kernel_rfl) (⟨x0,x1⟩) (fun hHeld=>?_)
  refine Aa (i:=0) (v:=?_) rfl (by kernel_rfl) (by kernel_rfl) (by kernel_rfl) (fun _ _ _ h=>h) rfl ?_ hHeld ?_
  rotate_left
  ·intro w hS; (try dsimp only at hS); obtain ⟨hS0,hS1⟩:=hS; go_simp; first | done | (with_reducible rfl)
  try simp only [Act.put,List.setIfInBounds_toArray,List.set_cons_zero,List.set_cons_succ]
  refine Aa (i:=1) (v:=?_) rfl (by kernel_rfl) (by kernel_rfl) (by kernel_rfl) (fun _ _ _ h=>h) rfl ?_ hHeld ?_
  rotate_left
  ·intro w hS; (try dsimp only at hS); obtain ⟨hS0,hS1⟩:=hS; go_simp; first | done | (with_reducible rfl)
  try simp only [Act.put,List.setIfInBounds_toArray,List.set_cons_zero,List.set_cons_succ]
  refine Aa (i:=2) (v:=?_) rfl (by kernel_rfl) (by kernel_rfl) (by kernel_rfl) (fun _ _ _ h=>h) rfl ?_ hHeld ?_
  rotate_left
  ·intro w hS; (try dsimp only at hS); obtain ⟨hS0,hS1⟩:=hS; go_simp; first | done | (with_reducible rfl)
  try simp only [Act.put,List.setIfInBounds_toArray,List.set_cons_zero,List.set_cons_succ]
  refine Aa (i:=3) (v:=?_) rfl (by kernel_rfl) (by kernel_rfl) (by kernel_rfl) (fun _ _ _ h=>h) rfl ?_ hHeld ?_
  rotate_left
  ·intro w hS; (try dsimp only at hS); obtain ⟨hS0,hS1⟩:=hS; go_simp; first | done | (with_reducible rfl)
  try simp only [Act.put,List.setIfInBounds_toArray,List.set_cons_zero,List.set_cons_succ]
  refine Aa (i:=4) (v:=?_) rfl (by kernel_rfl) (by kernel_rfl) (by kernel_rfl) (fun _ _ _ h=>h) rfl ?_ hHeld ?_
  rotate_left
  ·intro w hS; (try dsimp only at hS); obtain ⟨hS0,hS1⟩:=hS; go_simp; first | done | (with_reducible rfl)
  try simp only [Act.put,List.setIfInBounds_toArray,List.set_cons_zero,List.set_cons_succ]
  refine Aa (i:=5) (v:=?_) rfl (by kernel_rfl) (by kernel_rfl) (by kernel_rfl) (fun _ _ _ h=>h) rfl ?_ hHeld ?_
  rotate_left
  ·intro w hS; (try dsimp only at hS); obtain ⟨hS0,hS1⟩:=hS; go_simp; first | done | (with_reducible rfl)
  try simp only [Act.put,List.setIfInBounds_toArray,List.set_cons_zero,List.set_cons_succ]
  refine Aa (i:=6) (v:=?_) rfl (by kernel_rfl) (by kernel_rfl) (by kernel_rfl) (fun _ _ _ h=>h) rfl ?_ hHeld ?_
  rotate_left
  ·intro w hS; (try dsimp only at hS); obtain ⟨hS0,hS1⟩:=hS; go_simp; first | done | (with_reducible rfl)
  try simp only [Act.put,List.setIfInBounds_toArray,List.set_cons_zero,List.set_cons_succ]
  refine Aa (i:=7) (v:=?_) rfl (by kernel_rfl) (by kernel_rfl) (by kernel_rfl) (fun _ _ _ h=>h) rfl ?_ hHeld ?_
  rotate_left
  ·intro w hS; (try dsimp only at hS); obtain ⟨hS0,hS1⟩:=hS; go_simp; first | done | (with_reducible rfl)
  try simp only [Act.put,List.setIfInBounds_toArray,List.set_cons_zero,List.set_cons_succ]
  refine Aa (i:=8) (v:=?_) rfl (by kernel_rfl) (by kernel_rfl) (by kernel_rfl) (fun _ _ _ h=>h) rfl ?_ hHeld ?_
  rotate_left
  ·intro w hS; (try dsimp only at hS); obtain ⟨hS0,hS1⟩:=hS; go_simp; first | done | (with_reducible rfl)
  try simp only [Act.put,List.setIfInBounds_toArray,List.set_cons_zero,List.set_cons_succ]
  refine An (i:=9) rfl (by kernel_rfl) rfl (fun K hK=>?_)
  go_simp
  refine hsz.mono ?_
  rintro e w1 ⟨rfl,h1⟩
  rw [h1]
  clear h1
  refine hK.out _ _ (⟨x0,x1⟩) (fun hHeld=>?_)
  clear hK K
  try simp only [Act.put,List.setIfInBounds_toArray,List.set_cons_zero,List.set_cons_succ]
  refine Aa (i:=10) (v:=?_) rfl (by kernel_rfl) (by kernel_rfl) (by kernel_rfl) (fun _ _ _ h=>h) rfl ?_ hHeld ?_
  rotate_left
  ·intro w hS; (try dsimp only at hS); obtain ⟨hS0,hS1⟩:=hS; go_simp; first | done | (with_reducible rfl)
  try simp only [Act.put,List.setIfInBounds_toArray,List.set_cons_zero,List.set_cons_succ]
  refine wpAnyH_done (by kernel_rfl) ?_ _
  clear hHeld
  go_wp2
  go_ret
  exact ⟨rfl,H.out.drew.refl.drewn⟩
 ·rw [if_neg hs]
  generalize S.remove (L.n++Ao)=R at *
  go_enter Tryz.func119,Tryz.ntmps119
  go_wp2
  refine wp_region_held_drew (S:=fun W=>W.cell? ⟨l,0,none⟩=some (.pointer (some ⟨d,0,none⟩))∧W.cell? ⟨l,1,none⟩=some (.string (Ae L.n))) (by kernel_rfl) (⟨x0,x1⟩) (fun hHeld=>?_)
  refine Aa (i:=0) (v:=?_) rfl (by kernel_rfl) (by kernel_rfl) (by kernel_rfl) (fun _ _ _ h=>h) rfl ?_ hHeld ?_
  rotate_left
  ·intro w hS; (try dsimp only at hS); obtain ⟨hS0,hS1⟩:=hS; go_simp; first | done | (with_reducible rfl)
  try simp only [Act.put,List.setIfInBounds_toArray,List.set_cons_zero,List.set_cons_succ]
  refine Aa (i:=1) (v:=?_) rfl (by kernel_rfl) (by kernel_rfl) (by kernel_rfl) (fun _ _ _ h=>h) rfl ?_ hHeld ?_
  rotate_left
  ·intro w hS; (try dsimp only at hS); obtain ⟨hS0,hS1⟩:=hS; go_simp; first | done | (with_reducible rfl)
  try simp only [Act.put,List.setIfInBounds_toArray,List.set_cons_zero,List.set_cons_succ]
  refine Aa (i:=2) (v:=?_) rfl (by kernel_rfl) (by kernel_rfl) (by kernel_rfl) (fun _ _ _ h=>h) rfl ?_ hHeld ?_
  rotate_left
  ·intro w hS; (try dsimp only at hS); obtain ⟨hS0,hS1⟩:=hS; go_simp; first | done | (with_reducible rfl)
  try simp only [Act.put,List.setIfInBounds_toArray,List.set_cons_zero,List.set_cons_succ]
  refine Aa (i:=3) (v:=?_) rfl (by kernel_rfl) (by kernel_rfl) (by kernel_rfl) (fun _ _ _ h=>h) rfl ?_ hHeld ?_
  rotate_left
  ·intro w hS; (try dsimp only at hS); obtain ⟨hS0,hS1⟩:=hS; go_simp; first | done | (with_reducible rfl)
  try simp only [Act.put,List.setIfInBounds_toArray,List.set_cons_zero,List.set_cons_succ]
  refine Aa (i:=4) (v:=?_) rfl (by kernel_rfl) (by kernel_rfl) (by kernel_rfl) (fun _ _ _ h=>h) rfl ?_ hHeld ?_
  rotate_left
  ·intro w hS; (try dsimp only at hS); obtain ⟨hS0,hS1⟩:=hS; go_simp; first | done | (with_reducible rfl)
  try simp only [Act.put,List.setIfInBounds_toArray,List.set_cons_zero,List.set_cons_succ]
  refine Aa (i:=5) (v:=?_) rfl (by kernel_rfl) (by kernel_rfl) (by kernel_rfl) (fun _ _ _ h=>h) rfl ?_ hHeld ?_
  rotate_left
  ·intro w hS; (try dsimp only at hS); obtain ⟨hS0,hS1⟩:=hS; go_simp; first | done | (with_reducible rfl)
  try simp only [Act.put,List.setIfInBounds_toArray,List.set_cons_zero,List.set_cons_succ]
  refine Aa (i:=6) (v:=?_) rfl (by kernel_rfl) (by kernel_rfl) (by kernel_rfl) (fun _ _ _ h=>h) rfl ?_ hHeld ?_
  rotate_left
  ·intro w hS; (try dsimp only at hS); obtain ⟨hS0,hS1⟩:=hS; go_simp; first | done | (with_reducible rfl)
  try simp only [Act.put,List.setIfInBounds_toArray,List.set_cons_zero,List.set_cons_succ]
  refine Aa (i:=7) (v:=?_) rfl (by kernel_rfl) (by kernel_rfl) (by kernel_rfl) (fun _ _ _ h=>h) rfl ?_ hHeld ?_
  rotate_left
  ·intro w hS; (try dsimp only at hS); obtain ⟨hS0,hS1⟩:=hS; go_simp; first | done | (with_reducible rfl)
  try simp only [Act.put,List.setIfInBounds_toArray,List.set_cons_zero,List.set_cons_succ]
  refine Aa (i:=8) (v:=?_) rfl (by kernel_rfl) (by kernel_rfl) (by kernel_rfl) (fun _ _ _ h=>h) rfl ?_ hHeld ?_
  rotate_left
  ·intro w hS; (try dsimp only at hS); obtain ⟨hS0,hS1⟩:=hS; go_simp; first | done | (with_reducible rfl)
  try simp only [Act.put,List.setIfInBounds_toArray,List.set_cons_zero,List.set_cons_succ]
  refine An (i:=9) rfl (by kernel_rfl) rfl (fun K hK=>?_)
  go_simp
  refine hsz.mono ?_
  rintro e w1 ⟨rfl,h1⟩
  rw [h1]
  clear h1
  refine hK.out _ _ (⟨x0,x1⟩) (fun hHeld=>?_)
  clear hK K
  try simp only [Act.put,List.setIfInBounds_toArray,List.set_cons_zero,List.set_cons_succ]
  refine Aa (i:=10) (v:=?_) rfl (by kernel_rfl) (by kernel_rfl) (by kernel_rfl) (fun _ _ _ h=>h) rfl ?_ hHeld ?_
  rotate_left
  ·intro w hS; (try dsimp only at hS); obtain ⟨hS0,hS1⟩:=hS; go_simp; first | done | (with_reducible rfl)
  try simp only [Act.put,List.setIfInBounds_toArray,List.set_cons_zero,List.set_cons_succ]
  refine wpAnyH_done (by kernel_rfl) ?_ _
  clear hHeld
  go_wp2
  refine wp_region_held_drew (S:=fun W=>W.cell? ⟨l,0,none⟩=some (.pointer (some ⟨d,0,none⟩))∧W.cell? ⟨l,1,none⟩=some (.string (Ae L.n))) (by kernel_rfl) (⟨x0,x1⟩) (fun hHeld=>?_)
  refine Aa (i:=0) (v:=?_) rfl (by kernel_rfl) (by kernel_rfl) (by kernel_rfl) (fun _ _ _ h=>h) rfl ?_ hHeld ?_
  rotate_left
  ·intro w hS; (try dsimp only at hS); obtain ⟨hS0,hS1⟩:=hS; go_simp; first | done | (with_reducible rfl)
  try simp only [Act.put,List.setIfInBounds_toArray,List.set_cons_zero,List.set_cons_succ]
  refine Aa (i:=1) (v:=?_) rfl (by kernel_rfl) (by kernel_rfl) (by kernel_rfl) (fun _ _ _ h=>h) rfl ?_ hHeld ?_
  rotate_left
  ·intro w hS; (try dsimp only at hS); obtain ⟨hS0,hS1⟩:=hS; go_simp; first | done | (with_reducible rfl)
  try simp only [Act.put,List.setIfInBounds_toArray,List.set_cons_zero,List.set_cons_succ]
  refine Aa (i:=2) (v:=?_) rfl (by kernel_rfl) (by kernel_rfl) (by kernel_rfl) (fun _ _ _ h=>h) rfl ?_ hHeld ?_
  rotate_left
  ·intro w hS; (try dsimp only at hS); obtain ⟨hS0,hS1⟩:=hS; go_simp; first | done | (with_reducible rfl)
  try simp only [Act.put,List.setIfInBounds_toArray,List.set_cons_zero,List.set_cons_succ]
  refine Aa (i:=3) (v:=?_) rfl (by kernel_rfl) (by kernel_rfl) (by kernel_rfl) (fun _ _ _ h=>h) rfl ?_ hHeld ?_
  rotate_left
  ·intro w hS; (try dsimp only at hS); obtain ⟨hS0,hS1⟩:=hS; go_simp; first | done | (with_reducible rfl)
  try simp only [Act.put,List.setIfInBounds_toArray,List.set_cons_zero,List.set_cons_succ]
  refine Aa (i:=4) (v:=?_) rfl (by kernel_rfl) (by kernel_rfl) (by kernel_rfl) (fun _ _ _ h=>h) rfl ?_ hHeld ?_
  rotate_left
  ·intro w hS; (try dsimp only at hS); obtain ⟨hS0,hS1⟩:=hS; go_simp; first | done | (with_reducible rfl)
  try simp only [Act.put,List.setIfInBounds_toArray,List.set_cons_zero,List.set_cons_succ]
  refine Aa (i:=5) (v:=?_) rfl (by kernel_rfl) (by kernel_rfl) (by kernel_rfl) (fun _ _ _ h=>h) rfl ?_ hHeld ?_
  rotate_left
  ·intro w hS; (try dsimp only at hS); obtain ⟨hS0,hS1⟩:=hS; go_simp; first | done | (with_reducible rfl)
  try simp only [Act.put,List.setIfInBounds_toArray,List.set_cons_zero,List.set_cons_succ]
  refine Aa (i:=6) (v:=?_) rfl (by kernel_rfl) (by kernel_rfl) (by kernel_rfl) (fun _ _ _ h=>h) rfl ?_ hHeld ?_
  rotate_left
  ·intro w hS; (try dsimp only at hS); obtain ⟨hS0,hS1⟩:=hS; go_simp; first | done | (with_reducible rfl)
  try simp only [Act.put,List.setIfInBounds_toArray,List.set_cons_zero,List.set_cons_succ]
  refine Aa (i:=7) (v:=?_) rfl (by kernel_rfl) (by kernel_rfl) (by kernel_rfl) (fun _ _ _ h=>h) rfl ?_ hHeld ?_
  rotate_left
  ·intro w hS; (try dsimp only at hS); obtain ⟨hS0,hS1⟩:=hS; go_simp; first | done | (with_reducible rfl)
  try simp only [Act.put,List.setIfInBounds_toArray,List.set_cons_zero,List.set_cons_succ]
  refine Aa (i:=8) (v:=?_) rfl (by kernel_rfl) (by kernel_rfl) (by kernel_rfl) (fun _ _ _ h=>h) rfl ?_ hHeld ?_
  rotate_left
  ·intro w hS; (try dsimp only at hS); obtain ⟨hS0,hS1⟩:=hS; go_simp; first | done | (with_reducible rfl)
  try simp only [Act.put,List.setIfInBounds_toArray,List.set_cons_zero,List.set_cons_succ]
  refine An (i:=9) rfl (by kernel_rfl) rfl (fun K hK=>?_)
  go_simp
  refine hrm.mono ?_
  rintro e w2 ⟨rfl,ha⟩
  have ht:=H.out.drew.drew.after ha
  obtain ⟨F2,hg2,-⟩:=id ht
  have y0:=Ad hg2.2.1 0
  have y1:=Ad hg2.2.1 1
  refine hK.out _ _ (⟨y0,y1⟩) (fun hHeld=>?_)
  clear hK K
  try simp only [Act.put,List.setIfInBounds_toArray,List.set_cons_zero,List.set_cons_succ]
  refine Aa (i:=10) (v:=?_) rfl (by kernel_rfl) (by kernel_rfl) (by kernel_rfl) (fun _ _ _ h=>h) rfl ?_ hHeld ?_
  rotate_left
  ·intro w hS; (try dsimp only at hS); obtain ⟨hS0,hS1⟩:=hS; go_simp; first | done | (with_reducible rfl)
  try simp only [Act.put,List.setIfInBounds_toArray,List.set_cons_zero,List.set_cons_succ]
  refine wpAnyH_done (by kernel_rfl) ?_ _
  clear hHeld
  go_wp2
  go_ret
  exact ⟨rfl,ht.drewn.drewn⟩
set_option maxRecDepth 20000 in
set_option maxHeartbeats 800000 in
theorem Ht (h : Lg B w F d l S L) (hb : S.bulk+1<1099511627776) :
  Calls Tryz.prog 123 #[.pointer (some ⟨l,0,none⟩)] w fun e w'=>e = .returned (.int .i64 (Be S L.sure).2.2)∧Bu B w F d l (Be S L.sure).1 { L with sure:=(Be S L.sure).2.1 } w':=by
 have hsd:=syncDir_lies h.1 h.size hb
 have x0:=Ad h.2.1 0
 have x2:=Ad h.2.1 2
 have H:=Ab h
 clear h
 unfold Be
 cases hs : L.sure with
 | true=>
  rw [if_pos rfl]
  rw [hs] at x2
  go_enter Tryz.func123,Tryz.ntmps123
  go_wp2
  go_ret
  have:=H.out.refl
  refine ⟨rfl,?_⟩
  rw [← hs]
  exact this
 | false=>
  rw [if_neg (by decide)]
  rw [hs] at x2
  generalize S.syncDir=R at *
  obtain ⟨S1,e1⟩:=R
  dsimp only at hsd ⊢
  go_enter Tryz.func123,Tryz.ntmps123
  go_wp2_with fail
  refine hsd.mono ?_
  rintro e w1 ⟨rfl,ha⟩
  obtain ⟨F1,hg1,hf1,hc1⟩:=H.out.after ha
  have y2:=Au hg1.2.1 2
  have y3:=Ad hg1.2.1 2
  have hp:=hg1.put (e1 == 0)
  go_wp2
  go_ret
  exact ⟨rfl,hp.next hc1 hf1⟩
set_option maxRecDepth 20000 in
set_option maxHeartbeats 800000 in
theorem length_lg (h : Lg B w F d l S L) :
  Calls Tryz.prog 88 #[.pointer (some ⟨l,0,none⟩)] w fun e w'=>e = .returned (.int .i64 (max (S.size L.n) 0))∧w'=w.drew:=by
 have hsz:=size_lies h.1.drew L.n
 have x0:=Ad h.2.1 0
 have x1:=Ad h.2.1 1
 clear h
 generalize S.size L.n=z at *
 have hm : (if z<0 then (0 : Int) else z)=max z 0:=by split <;> omega
 generalize max z 0=m at *
 go_enter Tryz.func88,Tryz.ntmps88
 go_wp2
 refine wp_region_held_drew (S:=fun W=>W.cell? ⟨l,0,none⟩=some (.pointer (some ⟨d,0,none⟩))∧W.cell? ⟨l,1,none⟩=some (.string (Ae L.n))) (by kernel_rfl) (⟨x0,x1⟩) (fun hHeld=>?_)
 refine Aa (i:=0) (v:=?_) rfl (by kernel_rfl) (by kernel_rfl) (by kernel_rfl) (fun _ _ _ h=>h) rfl ?_ hHeld ?_
 rotate_left
 ·intro w hS; (try dsimp only at hS); obtain ⟨hS0,hS1⟩:=hS; go_simp; first | done | (with_reducible rfl)
 try simp only [Act.put,List.setIfInBounds_toArray,List.set_cons_zero,List.set_cons_succ]
 refine Aa (i:=1) (v:=?_) rfl (by kernel_rfl) (by kernel_rfl) (by kernel_rfl) (fun _ _ _ h=>h) rfl ?_ hHeld ?_
 rotate_left
 ·intro w hS; (try dsimp only at hS); obtain ⟨hS0,hS1⟩:=hS; go_simp; first | done | (with_reducible rfl)
 try simp only [Act.put,List.setIfInBounds_toArray,List.set_cons_zero,List.set_cons_succ]
 refine Aa (i:=2) (v:=?_) rfl (by kernel_rfl) (by kernel_rfl) (by kernel_rfl) (fun _ _ _ h=>h) rfl ?_ hHeld ?_
 rotate_left
 ·intro w hS; (try dsimp only at hS); obtain ⟨hS0,hS1⟩:=hS; go_simp; first | done | (with_reducible rfl)
 try simp only [Act.put,List.setIfInBounds_toArray,List.set_cons_zero,List.set_cons_succ]
 refine Aa (i:=3) (v:=?_) rfl (by kernel_rfl) (by kernel_rfl) (by kernel_rfl) (fun _ _ _ h=>h) rfl ?_ hHeld ?_
 rotate_left
 ·intro w hS; (try dsimp only at hS); obtain ⟨hS0,hS1⟩:=hS; go_simp; first | done | (with_reducible rfl)
 try simp only [Act.put,List.setIfInBounds_toArray,List.set_cons_zero,List.set_cons_succ]
 refine Aa (i:=4) (v:=?_) rfl (by kernel_rfl) (by kernel_rfl) (by kernel_rfl) (fun _ _ _ h=>h) rfl ?_ hHeld ?_
 rotate_left
 ·intro w hS; (try dsimp only at hS); obtain ⟨hS0,hS1⟩:=hS; go_simp; first | done | (with_reducible rfl)
 try simp only [Act.put,List.setIfInBounds_toArray,List.set_cons_zero,List.set_cons_succ]
 refine Aa (i:=5) (v:=?_) rfl (by kernel_rfl) (by kernel_rfl) (by kernel_rfl) (fun _ _ _ h=>h) rfl ?_ hHeld ?_
 rotate_left
 ·intro w hS; (try dsimp only at hS); obtain ⟨hS0,hS1⟩:=hS; go_simp; first | done | (with_reducible rfl)
 try simp only [Act.put,List.setIfInBounds_toArray,List.set_cons_zero,List.set_cons_succ]
 refine Aa (i:=6) (v:=?_) rfl (by kernel_rfl) (by kernel_rfl) (by kernel_rfl) (fun _ _ _ h=>h) rfl ?_ hHeld ?_
 rotate_left
 ·intro w hS; (try dsimp only at hS); obtain ⟨hS0,hS1⟩:=hS; go_simp; first | done | (with_reducible rfl)
 try simp only [Act.put,List.setIfInBounds_toArray,List.set_cons_zero,List.set_cons_succ]
 refine Aa (i:=7) (v:=?_) rfl (by kernel_rfl) (by kernel_rfl) (by kernel_rfl) (fun _ _ _ h=>h) rfl ?_ hHeld ?_
 rotate_left
 ·intro w hS; (try dsimp only at hS); obtain ⟨hS0,hS1⟩:=hS; go_simp; first | done | (with_reducible rfl)
 try simp only [Act.put,List.setIfInBounds_toArray,List.set_cons_zero,List.set_cons_succ]
 refine An (i:=8) rfl (by kernel_rfl) rfl (fun K hK=>?_)
 go_simp
 refine hsz.mono ?_
 rintro e w1 ⟨rfl,h1⟩
 rw [h1]
 clear h1
 refine hK.out _ _ (⟨x0,x1⟩) (fun hHeld=>?_)
 clear hK K
 try simp only [Act.put,List.setIfInBounds_toArray,List.set_cons_zero,List.set_cons_succ]
 refine Aa (i:=9) (v:=?_) rfl (by kernel_rfl) (by kernel_rfl) (by kernel_rfl) (fun _ _ _ h=>h) rfl ?_ hHeld ?_
 rotate_left
 ·intro w hS; (try dsimp only at hS); obtain ⟨hS0,hS1⟩:=hS; go_simp; first | done | (with_reducible rfl)
 try simp only [Act.put,List.setIfInBounds_toArray,List.set_cons_zero,List.set_cons_succ]
 refine Aa (i:=10) (v:=?_) rfl (by kernel_rfl) (by kernel_rfl) (by kernel_rfl) (fun _ _ _ h=>h) rfl ?_ hHeld ?_
 rotate_left
 ·intro w hS; (try dsimp only at hS); obtain ⟨hS0,hS1⟩:=hS; go_simp; first | done | (with_reducible rfl)
 try simp only [Act.put,List.setIfInBounds_toArray,List.set_cons_zero,List.set_cons_succ]
 refine wpAnyH_done (by kernel_rfl) ?_ _
 clear hHeld
 go_wp2
 go_ret
 exact ⟨rfl,rfl⟩
def C9 (S : Dk) (n : Nm) : List UInt8 × Int:=if (S.read n).2=32 then ([],0) else S.read n
set_option maxRecDepth 20000 in
set_option maxHeartbeats 800000 in
theorem read_lg (h : Lg B w F d l S L) (hb : S.bulk<1099511627776) :
  Calls Tryz.prog 77 #[.pointer (some ⟨l,0,none⟩)] w fun e w'=>∃ v F',e = .returned (.tuple #[v, .int .i64 (C9 S L.n).2])∧w'.ownsRow w.heap.size 5 1 v (C9 S L.n).1.length (bc (C9 S L.n).1) ∧
   Lg B w' F' d l S.begun L∧(∀ k,F' k→F k∨w.heap.size≤k)∧Chg F w w'∧∀ k,v.ownBlock=some k→¬ F' k:=by
 have hrd:=read_lies h.1.drew h.size L.n hb
 have x0:=Ad h.2.1 0
 have x1:=Ad h.2.1 1
 have H:=Ab h
 clear h
 unfold C9
 generalize S.read L.n=R at *
 obtain ⟨b,e0⟩:=R
 dsimp only at hrd ⊢
 by_cases he : e0=32
 ·subst he
  rw [if_pos rfl]
  go_enter Tryz.func77,Tryz.ntmps77
  go_wp2
  refine wp_region_held_drew (S:=fun W=>W.cell? ⟨l,0,none⟩=some (.pointer (some ⟨d,0,none⟩))∧W.cell? ⟨l,1,none⟩=some (.string (Ae L.n))) (by kernel_rfl) (⟨x0,x1⟩) (fun hHeld=>?_)
  refine Aa (i:=0) (v:=?_) rfl (by kernel_rfl) (by kernel_rfl) (by kernel_rfl) (fun _ _ _ h=>h) rfl ?_ hHeld ?_
  rotate_left
  ·intro w hS; (try dsimp only at hS); obtain ⟨hS0,hS1⟩:=hS; go_simp; first | done | (with_reducible rfl)
  try simp only [Act.put,List.setIfInBounds_toArray,List.set_cons_zero,List.set_cons_succ]
  refine Aa (i:=1) (v:=?_) rfl (by kernel_rfl) (by kernel_rfl) (by kernel_rfl) (fun _ _ _ h=>h) rfl ?_ hHeld ?_
  rotate_left
  ·intro w hS; (try dsimp only at hS); obtain ⟨hS0,hS1⟩:=hS; go_simp; first | done | (with_reducible rfl)
  try simp only [Act.put,List.setIfInBounds_toArray,List.set_cons_zero,List.set_cons_succ]
  refine Aa (i:=2) (v:=?_) rfl (by kernel_rfl) (by kernel_rfl) (by kernel_rfl) (fun _ _ _ h=>h) rfl ?_ hHeld ?_
  rotate_left
  ·intro w hS; (try dsimp only at hS); obtain ⟨hS0,hS1⟩:=hS; go_simp; first | done | (with_reducible rfl)
  try simp only [Act.put,List.setIfInBounds_toArray,List.set_cons_zero,List.set_cons_succ]
  refine Aa (i:=3) (v:=?_) rfl (by kernel_rfl) (by kernel_rfl) (by kernel_rfl) (fun _ _ _ h=>h) rfl ?_ hHeld ?_
  rotate_left
  ·intro w hS; (try dsimp only at hS); obtain ⟨hS0,hS1⟩:=hS; go_simp; first | done | (with_reducible rfl)
  try simp only [Act.put,List.setIfInBounds_toArray,List.set_cons_zero,List.set_cons_succ]
  refine Aa (i:=4) (v:=?_) rfl (by kernel_rfl) (by kernel_rfl) (by kernel_rfl) (fun _ _ _ h=>h) rfl ?_ hHeld ?_
  rotate_left
  ·intro w hS; (try dsimp only at hS); obtain ⟨hS0,hS1⟩:=hS; go_simp; first | done | (with_reducible rfl)
  try simp only [Act.put,List.setIfInBounds_toArray,List.set_cons_zero,List.set_cons_succ]
  refine Aa (i:=5) (v:=?_) rfl (by kernel_rfl) (by kernel_rfl) (by kernel_rfl) (fun _ _ _ h=>h) rfl ?_ hHeld ?_
  rotate_left
  ·intro w hS; (try dsimp only at hS); obtain ⟨hS0,hS1⟩:=hS; go_simp; first | done | (with_reducible rfl)
  try simp only [Act.put,List.setIfInBounds_toArray,List.set_cons_zero,List.set_cons_succ]
  refine Aa (i:=6) (v:=?_) rfl (by kernel_rfl) (by kernel_rfl) (by kernel_rfl) (fun _ _ _ h=>h) rfl ?_ hHeld ?_
  rotate_left
  ·intro w hS; (try dsimp only at hS); obtain ⟨hS0,hS1⟩:=hS; go_simp; first | done | (with_reducible rfl)
  try simp only [Act.put,List.setIfInBounds_toArray,List.set_cons_zero,List.set_cons_succ]
  refine Aa (i:=7) (v:=?_) rfl (by kernel_rfl) (by kernel_rfl) (by kernel_rfl) (fun _ _ _ h=>h) rfl ?_ hHeld ?_
  rotate_left
  ·intro w hS; (try dsimp only at hS); obtain ⟨hS0,hS1⟩:=hS; go_simp; first | done | (with_reducible rfl)
  try simp only [Act.put,List.setIfInBounds_toArray,List.set_cons_zero,List.set_cons_succ]
  refine An (i:=8) rfl (by kernel_rfl) rfl (fun K hK=>?_)
  go_simp
  refine hrd.mono ?_
  rintro e w1 ⟨v,rfl,ho,F1,hs1,hf1,hc1,hv1⟩
  have hg1:=H.out.drew.next hs1 hf1 hc1
  have y0:=Ad hg1.2.1 0
  have y1:=Ad hg1.2.1 1
  refine hK.out _ _ (⟨y0,y1⟩) (fun hHeld=>?_)
  clear hK K
  try simp only [Act.put,List.setIfInBounds_toArray,List.set_cons_zero,List.set_cons_succ]
  refine Aa (i:=9) (v:=?_) rfl (by kernel_rfl) (by kernel_rfl) (by kernel_rfl) (fun _ _ _ h=>h) rfl ?_ hHeld ?_
  rotate_left
  ·intro w hS; (try dsimp only at hS); obtain ⟨hS0,hS1⟩:=hS; go_simp; first | done | (with_reducible rfl)
  try simp only [Act.put,List.setIfInBounds_toArray,List.set_cons_zero,List.set_cons_succ]
  refine Aa (i:=10) (v:=?_) rfl (by kernel_rfl) (by kernel_rfl) (by kernel_rfl) (fun _ _ _ h=>h) rfl ?_ hHeld ?_
  rotate_left
  ·intro w hS; (try dsimp only at hS); obtain ⟨hS0,hS1⟩:=hS; go_simp; first | done | (with_reducible rfl)
  try simp only [Act.put,List.setIfInBounds_toArray,List.set_cons_zero,List.set_cons_succ]
  refine Aa (i:=11) (v:=?_) rfl (by kernel_rfl) (by kernel_rfl) (by kernel_rfl) (fun _ _ _ h=>h) rfl ?_ hHeld ?_
  rotate_left
  ·intro w hS; (try dsimp only at hS); obtain ⟨hS0,hS1⟩:=hS; go_simp; first | done | (with_reducible rfl)
  try simp only [Act.put,List.setIfInBounds_toArray,List.set_cons_zero,List.set_cons_succ]
  refine Aa (i:=12) (v:=?_) rfl (by kernel_rfl) (by kernel_rfl) (by kernel_rfl) (fun _ _ _ h=>h) rfl ?_ hHeld ?_
  rotate_left
  ·intro w hS; (try dsimp only at hS); obtain ⟨hS0,hS1⟩:=hS; go_simp; first | done | (with_reducible rfl)
  try simp only [Act.put,List.setIfInBounds_toArray,List.set_cons_zero,List.set_cons_succ]
  refine Aa (i:=13) (v:=?_) rfl (by kernel_rfl) (by kernel_rfl) (by kernel_rfl) (fun _ _ _ h=>h) rfl ?_ hHeld ?_
  rotate_left
  ·intro w hS; (try dsimp only at hS); obtain ⟨hS0,hS1⟩:=hS; go_simp; first | done | (with_reducible rfl)
  try simp only [Act.put,List.setIfInBounds_toArray,List.set_cons_zero,List.set_cons_succ]
  refine wpAnyH_done (by kernel_rfl) ?_ _
  clear hHeld
  go_wp2
  go_ret2
  exact ⟨_,F1,rfl,World.ownsRow_nil _ _ _ _,hg1,hf1,hc1.undrew,fun k hk=>by cases hk⟩
 ·rw [if_neg he]
  go_enter Tryz.func77,Tryz.ntmps77
  go_wp2
  refine wp_region_held_drew (S:=fun W=>W.cell? ⟨l,0,none⟩=some (.pointer (some ⟨d,0,none⟩))∧W.cell? ⟨l,1,none⟩=some (.string (Ae L.n))) (by kernel_rfl) (⟨x0,x1⟩) (fun hHeld=>?_)
  refine Aa (i:=0) (v:=?_) rfl (by kernel_rfl) (by kernel_rfl) (by kernel_rfl) (fun _ _ _ h=>h) rfl ?_ hHeld ?_
  rotate_left
  ·intro w hS; (try dsimp only at hS); obtain ⟨hS0,hS1⟩:=hS; go_simp; first | done | (with_reducible rfl)
  try simp only [Act.put,List.setIfInBounds_toArray,List.set_cons_zero,List.set_cons_succ]
  refine Aa (i:=1) (v:=?_) rfl (by kernel_rfl) (by kernel_rfl) (by kernel_rfl) (fun _ _ _ h=>h) rfl ?_ hHeld ?_
  rotate_left
  ·intro w hS; (try dsimp only at hS); obtain ⟨hS0,hS1⟩:=hS; go_simp; first | done | (with_reducible rfl)
  try simp only [Act.put,List.setIfInBounds_toArray,List.set_cons_zero,List.set_cons_succ]
  refine Aa (i:=2) (v:=?_) rfl (by kernel_rfl) (by kernel_rfl) (by kernel_rfl) (fun _ _ _ h=>h) rfl ?_ hHeld ?_
  rotate_left
  ·intro w hS; (try dsimp only at hS); obtain ⟨hS0,hS1⟩:=hS; go_simp; first | done | (with_reducible rfl)
  try simp only [Act.put,List.setIfInBounds_toArray,List.set_cons_zero,List.set_cons_succ]
  refine Aa (i:=3) (v:=?_) rfl (by kernel_rfl) (by kernel_rfl) (by kernel_rfl) (fun _ _ _ h=>h) rfl ?_ hHeld ?_
  rotate_left
  ·intro w hS; (try dsimp only at hS); obtain ⟨hS0,hS1⟩:=hS; go_simp; first | done | (with_reducible rfl)
  try simp only [Act.put,List.setIfInBounds_toArray,List.set_cons_zero,List.set_cons_succ]
  refine Aa (i:=4) (v:=?_) rfl (by kernel_rfl) (by kernel_rfl) (by kernel_rfl) (fun _ _ _ h=>h) rfl ?_ hHeld ?_
  rotate_left
  ·intro w hS; (try dsimp only at hS); obtain ⟨hS0,hS1⟩:=hS; go_simp; first | done | (with_reducible rfl)
  try simp only [Act.put,List.setIfInBounds_toArray,List.set_cons_zero,List.set_cons_succ]
  refine Aa (i:=5) (v:=?_) rfl (by kernel_rfl) (by kernel_rfl) (by kernel_rfl) (fun _ _ _ h=>h) rfl ?_ hHeld ?_
  rotate_left
  ·intro w hS; (try dsimp only at hS); obtain ⟨hS0,hS1⟩:=hS; go_simp; first | done | (with_reducible rfl)
  try simp only [Act.put,List.setIfInBounds_toArray,List.set_cons_zero,List.set_cons_succ]
  refine Aa (i:=6) (v:=?_) rfl (by kernel_rfl) (by kernel_rfl) (by kernel_rfl) (fun _ _ _ h=>h) rfl ?_ hHeld ?_
  rotate_left
  ·intro w hS; (try dsimp only at hS); obtain ⟨hS0,hS1⟩:=hS; go_simp; first | done | (with_reducible rfl)
  try simp only [Act.put,List.setIfInBounds_toArray,List.set_cons_zero,List.set_cons_succ]
  refine Aa (i:=7) (v:=?_) rfl (by kernel_rfl) (by kernel_rfl) (by kernel_rfl) (fun _ _ _ h=>h) rfl ?_ hHeld ?_
  rotate_left
  ·intro w hS; (try dsimp only at hS); obtain ⟨hS0,hS1⟩:=hS; go_simp; first | done | (with_reducible rfl)
  try simp only [Act.put,List.setIfInBounds_toArray,List.set_cons_zero,List.set_cons_succ]
  refine An (i:=8) rfl (by kernel_rfl) rfl (fun K hK=>?_)
  go_simp
  refine hrd.mono ?_
  rintro e w1 ⟨v,rfl,ho,F1,hs1,hf1,hc1,hv1⟩
  have hg1:=H.out.drew.next hs1 hf1 hc1
  have y0:=Ad hg1.2.1 0
  have y1:=Ad hg1.2.1 1
  refine hK.out _ _ (⟨y0,y1⟩) (fun hHeld=>?_)
  clear hK K
  try simp only [Act.put,List.setIfInBounds_toArray,List.set_cons_zero,List.set_cons_succ]
  refine Aa (i:=9) (v:=?_) rfl (by kernel_rfl) (by kernel_rfl) (by kernel_rfl) (fun _ _ _ h=>h) rfl ?_ hHeld ?_
  rotate_left
  ·intro w hS; (try dsimp only at hS); obtain ⟨hS0,hS1⟩:=hS; go_simp; first | done | (with_reducible rfl)
  try simp only [Act.put,List.setIfInBounds_toArray,List.set_cons_zero,List.set_cons_succ]
  refine Aa (i:=10) (v:=?_) rfl (by kernel_rfl) (by kernel_rfl) (by kernel_rfl) (fun _ _ _ h=>h) rfl ?_ hHeld ?_
  rotate_left
  ·intro w hS; (try dsimp only at hS); obtain ⟨hS0,hS1⟩:=hS; go_simp; first | done | (with_reducible rfl)
  try simp only [Act.put,List.setIfInBounds_toArray,List.set_cons_zero,List.set_cons_succ]
  refine Aa (i:=11) (v:=?_) rfl (by kernel_rfl) (by kernel_rfl) (by kernel_rfl) (fun _ _ _ h=>h) rfl ?_ hHeld ?_
  rotate_left
  ·intro w hS; (try dsimp only at hS); obtain ⟨hS0,hS1⟩:=hS; go_simp; first | done | (with_reducible rfl)
  try simp only [Act.put,List.setIfInBounds_toArray,List.set_cons_zero,List.set_cons_succ]
  refine Aa (i:=12) (v:=?_) rfl (by kernel_rfl) (by kernel_rfl) (by kernel_rfl) (fun _ _ _ h=>h) rfl ?_ hHeld ?_
  rotate_left
  ·intro w hS; (try dsimp only at hS); obtain ⟨hS0,hS1⟩:=hS; go_simp; first | done | (with_reducible rfl)
  try simp only [Act.put,List.setIfInBounds_toArray,List.set_cons_zero,List.set_cons_succ]
  refine Aa (i:=13) (v:=?_) rfl (by kernel_rfl) (by kernel_rfl) (by kernel_rfl) (fun _ _ _ h=>h) rfl ?_ hHeld ?_
  rotate_left
  ·intro w hS; (try dsimp only at hS); obtain ⟨hS0,hS1⟩:=hS; go_simp; first | done | (with_reducible rfl)
  try simp only [Act.put,List.setIfInBounds_toArray,List.set_cons_zero,List.set_cons_succ]
  refine wpAnyH_done (by kernel_rfl) ?_ _
  clear hHeld
  have heb : (e0 == 32)=false:=by simp [he]
  go_wp2
  go_ret2
  exact ⟨_,F1,rfl,ho,hg1,hf1,hc1.undrew,hv1⟩
set_option maxRecDepth 20000 in
set_option maxHeartbeats 800000 in
theorem beginning_lg (h : Lg B w F d l S L) (k : Int) (hk : -9223372036854775808≤k∧k≤9223372036854775807) (hb : S.bulk<1099511627776) :
  Calls Tryz.prog 118 #[.pointer (some ⟨l,0,none⟩), .int .i64 k] w fun e w'=>∃ v F',e = .returned (.tuple #[v, .int .i64 (S.readAt L.n 0 k).2])∧w'.ownsRow w.heap.size 5 1 v (S.readAt L.n 0 k).1.length (bc (S.readAt L.n 0 k).1) ∧
   Lg B w' F' d l S.begun L∧(∀ k,F' k→F k∨w.heap.size≤k)∧Chg F w w'∧∀ k,v.ownBlock=some k→¬ F' k:=by
 have hrd:=readAt_lies h.1.drew h.size L.n 0 k (by omega) hk hb
 have x0:=Ad h.2.1 0
 have x1:=Ad h.2.1 1
 have H:=Ab h
 clear h
 generalize S.readAt L.n 0 k=R at *
 obtain ⟨b,e0⟩:=R
 dsimp only at hrd ⊢
 go_enter Tryz.func118,Tryz.ntmps118
 go_wp2
 refine wp_region_held_drew (S:=fun W=>W.cell? ⟨l,0,none⟩=some (.pointer (some ⟨d,0,none⟩))∧W.cell? ⟨l,1,none⟩=some (.string (Ae L.n))) (by kernel_rfl) (⟨x0,x1⟩) (fun hHeld=>?_)
 refine Aa (i:=0) (v:=?_) rfl (by kernel_rfl) (by kernel_rfl) (by kernel_rfl) (fun _ _ _ h=>h) rfl ?_ hHeld ?_
 rotate_left
 ·intro w hS; (try dsimp only at hS); obtain ⟨hS0,hS1⟩:=hS; go_simp; first | done | (with_reducible rfl)
 try simp only [Act.put,List.setIfInBounds_toArray,List.set_cons_zero,List.set_cons_succ]
 refine Aa (i:=1) (v:=?_) rfl (by kernel_rfl) (by kernel_rfl) (by kernel_rfl) (fun _ _ _ h=>h) rfl ?_ hHeld ?_
 rotate_left
 ·intro w hS; (try dsimp only at hS); obtain ⟨hS0,hS1⟩:=hS; go_simp; first | done | (with_reducible rfl)
 try simp only [Act.put,List.setIfInBounds_toArray,List.set_cons_zero,List.set_cons_succ]
 refine Aa (i:=2) (v:=?_) rfl (by kernel_rfl) (by kernel_rfl) (by kernel_rfl) (fun _ _ _ h=>h) rfl ?_ hHeld ?_
 rotate_left
 ·intro w hS; (try dsimp only at hS); obtain ⟨hS0,hS1⟩:=hS; go_simp; first | done | (with_reducible rfl)
 try simp only [Act.put,List.setIfInBounds_toArray,List.set_cons_zero,List.set_cons_succ]
 refine Aa (i:=3) (v:=?_) rfl (by kernel_rfl) (by kernel_rfl) (by kernel_rfl) (fun _ _ _ h=>h) rfl ?_ hHeld ?_
 rotate_left
 ·intro w hS; (try dsimp only at hS); obtain ⟨hS0,hS1⟩:=hS; go_simp; first | done | (with_reducible rfl)
 try simp only [Act.put,List.setIfInBounds_toArray,List.set_cons_zero,List.set_cons_succ]
 refine Aa (i:=4) (v:=?_) rfl (by kernel_rfl) (by kernel_rfl) (by kernel_rfl) (fun _ _ _ h=>h) rfl ?_ hHeld ?_
 rotate_left
 ·intro w hS; (try dsimp only at hS); obtain ⟨hS0,hS1⟩:=hS; go_simp; first | done | (with_reducible rfl)
 try simp only [Act.put,List.setIfInBounds_toArray,List.set_cons_zero,List.set_cons_succ]
 refine Aa (i:=5) (v:=?_) rfl (by kernel_rfl) (by kernel_rfl) (by kernel_rfl) (fun _ _ _ h=>h) rfl ?_ hHeld ?_
 rotate_left
 ·intro w hS; (try dsimp only at hS); obtain ⟨hS0,hS1⟩:=hS; go_simp; first | done | (with_reducible rfl)
 try simp only [Act.put,List.setIfInBounds_toArray,List.set_cons_zero,List.set_cons_succ]
 refine Aa (i:=6) (v:=?_) rfl (by kernel_rfl) (by kernel_rfl) (by kernel_rfl) (fun _ _ _ h=>h) rfl ?_ hHeld ?_
 rotate_left
 ·intro w hS; (try dsimp only at hS); obtain ⟨hS0,hS1⟩:=hS; go_simp; first | done | (with_reducible rfl)
 try simp only [Act.put,List.setIfInBounds_toArray,List.set_cons_zero,List.set_cons_succ]
 refine Aa (i:=7) (v:=?_) rfl (by kernel_rfl) (by kernel_rfl) (by kernel_rfl) (fun _ _ _ h=>h) rfl ?_ hHeld ?_
 rotate_left
 ·intro w hS; (try dsimp only at hS); obtain ⟨hS0,hS1⟩:=hS; go_simp; first | done | (with_reducible rfl)
 try simp only [Act.put,List.setIfInBounds_toArray,List.set_cons_zero,List.set_cons_succ]
 refine Aa (i:=8) (v:=?_) rfl (by kernel_rfl) (by kernel_rfl) (by kernel_rfl) (fun _ _ _ h=>h) rfl ?_ hHeld ?_
 rotate_left
 ·intro w hS; (try dsimp only at hS); obtain ⟨hS0,hS1⟩:=hS; go_simp; first | done | (with_reducible rfl)
 try simp only [Act.put,List.setIfInBounds_toArray,List.set_cons_zero,List.set_cons_succ]
 refine An (i:=9) rfl (by kernel_rfl) rfl (fun K hK=>?_)
 go_simp
 refine hrd.mono ?_
 rintro e w1 ⟨v,rfl,ho,F1,hs1,hf1,hc1,hv1⟩
 have hg1:=H.out.drew.next hs1 hf1 hc1
 have y0:=Ad hg1.2.1 0
 have y1:=Ad hg1.2.1 1
 refine hK.out _ _ (⟨y0,y1⟩) (fun hHeld=>?_)
 clear hK K
 try simp only [Act.put,List.setIfInBounds_toArray,List.set_cons_zero,List.set_cons_succ]
 refine Aa (i:=10) (v:=?_) rfl (by kernel_rfl) (by kernel_rfl) (by kernel_rfl) (fun _ _ _ h=>h) rfl ?_ hHeld ?_
 rotate_left
 ·intro w hS; (try dsimp only at hS); obtain ⟨hS0,hS1⟩:=hS; go_simp; first | done | (with_reducible rfl)
 try simp only [Act.put,List.setIfInBounds_toArray,List.set_cons_zero,List.set_cons_succ]
 refine Aa (i:=11) (v:=?_) rfl (by kernel_rfl) (by kernel_rfl) (by kernel_rfl) (fun _ _ _ h=>h) rfl ?_ hHeld ?_
 rotate_left
 ·intro w hS; (try dsimp only at hS); obtain ⟨hS0,hS1⟩:=hS; go_simp; first | done | (with_reducible rfl)
 try simp only [Act.put,List.setIfInBounds_toArray,List.set_cons_zero,List.set_cons_succ]
 refine Aa (i:=12) (v:=?_) rfl (by kernel_rfl) (by kernel_rfl) (by kernel_rfl) (fun _ _ _ h=>h) rfl ?_ hHeld ?_
 rotate_left
 ·intro w hS; (try dsimp only at hS); obtain ⟨hS0,hS1⟩:=hS; go_simp; first | done | (with_reducible rfl)
 try simp only [Act.put,List.setIfInBounds_toArray,List.set_cons_zero,List.set_cons_succ]
 refine Aa (i:=13) (v:=?_) rfl (by kernel_rfl) (by kernel_rfl) (by kernel_rfl) (fun _ _ _ h=>h) rfl ?_ hHeld ?_
 rotate_left
 ·intro w hS; (try dsimp only at hS); obtain ⟨hS0,hS1⟩:=hS; go_simp; first | done | (with_reducible rfl)
 try simp only [Act.put,List.setIfInBounds_toArray,List.set_cons_zero,List.set_cons_succ]
 refine wpAnyH_done (by kernel_rfl) ?_ _
 clear hHeld
 go_wp2
 go_ret2
 exact ⟨_,F1,rfl,ho,hg1,hf1,hc1.undrew,hv1⟩
end Go.Proofs.YtblniomnhpedjaaGreatDoor
