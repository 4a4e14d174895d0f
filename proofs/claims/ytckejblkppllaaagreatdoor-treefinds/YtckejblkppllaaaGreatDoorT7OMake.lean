/-
  Texts joined: OMake, ORight, ORead, OBegin.
-/
import Derived.Test.YtckejblkppllaaaGreatDoorT6OPlain
import Derived.Lib.SliceRun
import Derived.Lib.UnsafeStr
import Derived.Lib.BufferWrite
import Derived.Laws.MakeOwn
namespace Go.Proofs.YtckejblkppllaaaGreatDoor
open Go.RowKit
theorem Wr.sl {B : Nat} {w : World} {g : Nat} {l : Bs} (h : Wr B w g l) : ∃ v,w.cell? ⟨g,0,none⟩=some v∧Sl w v l:=by
 obtain ⟨hg,v,hh,hown⟩:=h
 exact ⟨v,by rw [cell_of_row w g 0 _ _ _ hh]; rfl,Ge hown⟩
theorem Gg (w : World) (g : Nat) (v : Value) (l : Bs) (hc : w.cell? ⟨g,0,none⟩=some v) (hv : Sl w v l) :
  Calls Tryz.prog 169 #[.pointer (some ⟨g,0,none⟩)] w fun e w'=>e = .returned (.int .i64 (l.length : Int))∧w'=w:=by
 obtain ⟨ao,cap,rfl,h1,h2,h3,h4⟩:=hv
 clear h4 h3
 go_enter Tryz.func169,Tryz.ntmps169
 go_wp2
 go_ret
 exact ⟨rfl,rfl⟩
set_option maxRecDepth 20000 in
theorem piece_any (w : World) (g : Nat) (v : Value) (l : Bs) (r m : Nat) (hc : w.cell? ⟨g,0,none⟩=some v) (hv : Sl w v l) (hm : r+m≤l.length) (j : Int) (hj : j=((r+m : Nat) : Int)) :
  Calls Tryz.prog 168 #[.pointer (some ⟨g,0,none⟩), .int .i64 (r : Int), .int .i64 j] w fun e w'=>e = .returned (.string (Ab ((l.drop r).take m)))∧w'=w:=by
 subst hj
 have h:=hv
 obtain ⟨ao,cap,rfl,h1,h2,h3,h4⟩:=hv
 clear h4 h3
 unfold maxLen at h2
 rcases Nat.lt_or_ge r cap with hrc | hrc
 ·have hs:=Sl.cutAt hm hrc h
  clear h
  go_enter Tryz.func168,Tryz.ntmps168
  go_wp2_with (refine Hc _ rfl (.tmp 13) rfl hs (by first | rfl | (simp [go_sem]; done)) ?_)
  go_ret
  exact ⟨rfl,rfl⟩
 ·obtain rfl : cap=r:=by omega
  have hs:=Sl.cutEnd hm h
  clear h
  go_enter Tryz.func168,Tryz.ntmps168
  go_wp2_with (refine Hc _ rfl (.tmp 13) rfl hs (by first | rfl | (simp [go_sem]; done)) ?_)
  go_ret
  exact ⟨rfl,rfl⟩
theorem text_any (w : World) (g : Nat) (v : Value) (l : Bs) (hc : w.cell? ⟨g,0,none⟩=some v) (hv : Sl w v l) :
  Calls Tryz.prog 125 #[.pointer (some ⟨g,0,none⟩)] w fun e w'=>e = .returned (.string (Ab l))∧w'=w:=by
 have hp:=piece_any w g v l 0 l.length hc hv (by omega) (l.length : Int) (by simp)
 rw [List.drop_zero,List.take_length] at hp
 go_enter Tryz.func125,Tryz.ntmps125
 go_wp2_with fail
 refine (Gg w g v l hc hv).mono ?_
 rintro e w1 ⟨rfl,rfl⟩
 go_wp2_with fail
 refine hp.mono ?_
 rintro e w2 ⟨rfl,rfl⟩
 go_wp2
 go_ret
 exact ⟨rfl,rfl⟩
theorem ps_one (w : World) (l : Bs) (n : Nat) (hn : n=w.heap.size) : Ps (w.alloc (.cells #[.string (Ab l)] 9)) (.slice (some ⟨n,0,none⟩) 1 1) [l]:=by
 subst hn
 refine ⟨_,1,rfl,Nat.le_refl _,by unfold maxLen; omega,fun _=>⟨w.heap.size,0,rfl,by simp,fun j hj=>?_⟩⟩
 obtain rfl : j=0:=by simpa using hj
 rw [cell_of_row _ _ _ _ _ _ (heap_last w _ _ rfl)]
 rfl
theorem Cm {w : World} {g : Nat} {v0 v1 u0 u1 : Value} {t : TypeId} (h : w.heap[g]? = some (.cells #[v0,v1] t)) : ((w.setCell ⟨g,0,none⟩ u0).setCell ⟨g,1,none⟩ u1).heap[g]? = some (.cells #[u0,u1] t):=by
 rw [heap_setCell _ _ _ _ _ _ _ (heap_setCell _ _ _ _ _ _ _ h)]
 simp
theorem Tryz.infoObj : (Tryz.prog.info? 38).map (·.size)=some 2:=by kernel_rfl
def objV (l : Bs) : Value:=.agg #[.string (Ab (sha l)), .string (Ab l)]
set_option maxRecDepth 20000 in
theorem Me (w : World) (g : Nat) (v : Value) (l : Bs) (hc : w.cell? ⟨g,0,none⟩=some v) (hv : Sl w v l) (hg : g<w.heap.size) (hT : Bh w) (hsz : l.length≤140737488355328) :
  Calls Tryz.prog 253 #[.pointer (some ⟨g,0,none⟩)] w fun e w'=>e = .returned (objV l)∧Below w.heap.size w w':=by
 have h0:=hT.1
 unfold objV
 have hsum : ∀ W u,Ps W u [l]→Bh W→Calls Tryz.prog 227 #[u] W fun e w'=>e = .returned (.string (Ab (sha l)))∧Below W.heap.size W w':=fun W u h1 h2=>by
  have:=sum_any W u [l] h1 h2 (by simpa using hsz)
  rw [show ([l] : List Bs).flatten=l from by simp] at this
  exact this
 generalize sha l=S at *
 have hb0 : Below w.heap.size w (w.alloc (.cells #[.string ⟨#[]⟩, .string ⟨#[]⟩] 38)):=(Below.refl _ _).alloc (Nat.le_refl _) _
 have hc0:=(hb0.cell (p:=⟨g,0,none⟩) hg).trans hc
 have hv0:=hv.keep hb0
 have hx0:=heap_last w (.cells #[.string ⟨#[]⟩, .string ⟨#[]⟩] 38) _ rfl
 have hps:=ps_one (w.alloc (.cells #[.string ⟨#[]⟩, .string ⟨#[]⟩] 38)) l (w.heap.size+1) (by simp)
 have hb1:=hb0.alloc hb0.size (.cells #[.string (Ab l)] 9)
 have hx1:=(heap_past (w.alloc (.cells #[.string ⟨#[]⟩, .string ⟨#[]⟩] 38)) (.cells #[.string (Ab l)] 9) w.heap.size (by simp)).trans hx0
 have hTs:=hT.keep hb1 h0
 have HPS:=Ac hps
 have HT:=Ac hTs
 have HX:=Ac hx1
 have HB:=Ac hb1
 clear hps hTs hx1 hb1 hv hc hT
 go_enter Tryz.func253,Tryz.ntmps253
 go_wp2_with fail
 refine (text_any _ g v l hc0 hv0).mono ?_
 rintro e w1 ⟨rfl,rfl⟩
 go_wp2_with fail
 refine (hsum _ _ HPS.out HT.out).mono ?_
 rintro e w2 ⟨rfl,hb2⟩
 have hx2:=(hb2.block _ (Ad HX.out)).trans HX.out
 have hbw:=HB.out.trans (hb2.mono HB.out.size)
 have c0:=cell_of_row w2 w.heap.size 0 _ _ _ hx2
 have c1:=cell_of_row w2 w.heap.size 1 _ _ _ hx2
 simp only [List.getElem?_toArray,List.getElem?_cons_zero,List.getElem?_cons_succ] at c0 c1
 have f0:=Af (j:=0) hx2
 have f1:=Af (j:=1) hx2
 go_wp2
 refine bodyPost_ret (v:=.agg #[.string (Ab S), .string (Ab l)]) (results_cell_row rfl _ _ _ _ _ _ _ rfl (Cm hx2) Tryz.underlying38 rfl Tryz.infoObj) rfl ⟨rfl,?_⟩
 exact (hbw.setCell (p:=⟨w.heap.size,0,none⟩) (Nat.le_refl _) _).setCell (p:=⟨w.heap.size,1,none⟩) (Nat.le_refl _) _
set_option maxRecDepth 20000 in
theorem Kw (w : World) (v : Value) (ps : List Bs) (hv : Ls w.heap.size w 1 idC v ps) (hsz : ps.flatten.length≤140737488355328) :
  Calls Tryz.prog 122 #[v] w fun e w'=>∃ g,e = .returned (.pointer (some ⟨g,0,none⟩))∧Wr w.heap.size w' g ps.flatten∧Below w.heap.size w w':=by
 obtain ⟨ao,cap,rfl,h1,h2,h4⟩:=hv
 unfold maxLen at h2
 have hW0 : Wr w.heap.size (w.alloc (.cells #[.slice none 0 0] 273)) w.heap.size []:=⟨Nat.le_refl _,_,heap_last w _ _ rfl,World.ownsRow_nil _ _ _ _⟩
 have hb0 : Below w.heap.size w (w.alloc (.cells #[.slice none 0 0] 273)):=(Below.refl _ _).alloc (Nat.le_refl _) _
 have HW0:=Ac hW0
 have HB0:=Ac hb0
 clear hW0 hb0
 go_enter Tryz.func122,Tryz.ntmps122
 go_wp2_with fail
 go_loopw [10] (fun t wr=>∃ k : Nat,k≤ps.length∧t = .int .i64 k∧Wr w.heap.size wr w.heap.size (ps.take k).flatten∧Below w.heap.size w wr)
  (fun t _=>ps.length - (intOf t).toNat)
 case atStart=>exact ⟨0,by omega,rfl,HW0.out,HB0.out⟩
 case round=>
  clear HW0 HB0
  obtain ⟨k,hk,rfl,hWr,hb⟩:=hrel
  have HW:=Ac hWr
  have HB:=Ac hb
  clear hWr hb
  by_cases hlt : k<ps.length
  ·obtain ⟨b,off,rfl,hbB,hc⟩:=h4 (by rintro rfl; simp at hlt)
   have c0:=(HB.out.cell (p:=⟨b,off+k * 1+0,none⟩) hbB).trans (hc k hlt 0 _ rfl)
   simp only [Nat.mul_one,Nat.add_zero] at c0
   have hst : (ps.take (k+1)).flatten=(ps.take k).flatten++ps[k]:=by
    rw [List.take_succ_eq_append_getElem hlt,List.flatten_append]; simp
   have hle : (ps.take (k+1)).flatten.length≤ps.flatten.length:=by
    have : ps.flatten=(ps.take (k+1)).flatten++(ps.drop (k+1)).flatten:=by rw [← List.flatten_append,List.take_append_drop]
    rw [this,List.length_append]; omega
   rw [hst,List.length_append] at hle
   have HST:=Ac hst
   generalize ps[k]=x at *
   go_wp2_with fail
   refine (La w.heap.size _ w.heap.size _ x HW.out (by omega)).mono ?_
   rintro e w2 ⟨rfl,hW2,hb2,-⟩
   have HW2:=Ac hW2
   have HB2:=Ac (HB.out.trans hb2)
   clear hW2 hb2
   go_wp2
   go_roundw
   case rel=>exact ⟨k+1,by omega,by go_num,by rw [HST.out]; exact HW2.out,HB2.out⟩
   case measure=>simp [intOf]; omega
  ·obtain rfl : k=ps.length:=by omega
   go_wp2
   go_ret
   refine ⟨_,rfl,?_,HB.out⟩
   have:=HW.out
   rw [List.take_length] at this
   exact this
end Go.Proofs.YtckejblkppllaaaGreatDoor
namespace Go.Proofs.YtckejblkppllaaaGreatDoor
open Go.RowKit
theorem Al {a b : Bool} (h : a=b) : Ending.returned (.bool a) = .returned (.bool b):=by rw [h]
theorem I8 {α : Type} (f : α→Bool) (xs : List α) (k : Nat) (hk : k<xs.length) (h : (xs.take k).all f=true) (hf : f xs[k]=true) : (xs.take (k+1)).all f=true:=by
 rw [List.take_succ_eq_append_getElem hk,List.all_append,h]
 simp [hf]
theorem I6 {α : Type} (f : α→Bool) (xs : List α) (k : Nat) (hk : k<xs.length) (hf : f xs[k]=false) : false=xs.all f:=by
 refine Eq.symm (Bool.eq_false_iff.2 fun h=>?_)
 rw [List.all_eq_true] at h
 have:=h _ (List.getElem_mem hk)
 rw [hf] at this
 cases this
theorem isId_any (w : World) (s : Bs) : Calls Tryz.prog 164 #[.string (Ab s)] w fun e w'=>e = .returned (.bool (Ci s))∧w'=w:=by
 have hs:=A1 s
 go_enter Tryz.func164,Tryz.ntmps164
 go_wp2
 go_ret
 refine ⟨Al ?_,rfl⟩
 unfold Ci
 (try rw [Bool.eq_iff_iff]); simp <;> omega
theorem Ii (w : World) (s : Bs) : Calls Tryz.prog 269 #[.string (Ab s)] w fun e w'=>e = .returned (.bool (As s))∧w'=w:=by
 have hs:=A1 s
 by_cases h : 1≤s.length
 ·go_enter Tryz.func269,Tryz.ntmps269
  go_wp2
  go_ret
  refine ⟨Al ?_,rfl⟩
  unfold As
  rw [Bool.eq_iff_iff]; simp; omega
 ·go_enter Tryz.func269,Tryz.ntmps269
  go_wp2
  go_ret
  refine ⟨Al ?_,rfl⟩
  unfold As
  rw [Bool.eq_iff_iff]; simp; omega
theorem Gn (w : World) (n : Int) : Calls Tryz.prog 272 #[.int .i64 n] w fun e w'=>e = .returned (.bool (Dw n))∧w'=w:=by
 by_cases h : 1≤n
 ·go_enter Tryz.func272,Tryz.ntmps272
  go_wp2
  go_ret
  refine ⟨Al ?_,rfl⟩
  unfold Dw
  rw [Bool.eq_iff_iff]; simp; omega
 ·go_enter Tryz.func272,Tryz.ntmps272
  go_wp2
  go_ret
  refine ⟨Al ?_,rfl⟩
  unfold Dw
  rw [Bool.eq_iff_iff]; simp; omega
theorem leaf1_any (w : World) (x : Ag) : Calls Tryz.prog 268 #[.agg #[.string (Ab x.1), .string (Ab x.2)]] w fun e w'=>e = .returned (.bool (As x.1 && decide (x.2.length≤128)))∧Below w.heap.size w w':=by
 have hs:=A1 x.2
 by_cases h : As x.1=true
 ·go_enter Tryz.func268,Tryz.ntmps268
  go_wp2_with fail
  refine (Ii _ x.1).mono ?_
  rintro e w1 ⟨rfl,rfl⟩
  rw [h]
  go_wp2
  go_ret
  refine ⟨Al ?_,(Below.refl _ _).alloc (Nat.le_refl _) _⟩
  rw [h,Bool.eq_iff_iff]; simp; omega
 ·have h:=Bool.eq_false_iff.2 h
  go_enter Tryz.func268,Tryz.ntmps268
  go_wp2_with fail
  refine (Ii _ x.1).mono ?_
  rintro e w1 ⟨rfl,rfl⟩
  rw [h]
  go_wp2
  go_ret
  exact ⟨Al (by simp [h]),(Below.refl _ _).alloc (Nat.le_refl _) _⟩
theorem M7 (w : World) (x : Ah) : Calls Tryz.prog 274 #[.agg #[.string (Ab x.1), .string (Ab x.2.1), .int .i64 x.2.2]] w fun e w'=>e = .returned (.bool (As x.1 && Ci x.2.1))∧Below w.heap.size w w':=by
 by_cases h : As x.1=true
 ·go_enter Tryz.func274,Tryz.ntmps274
  go_wp2_with fail
  refine (Ii _ x.1).mono ?_
  rintro e w1 ⟨rfl,rfl⟩
  rw [h]
  go_wp2_with fail
  refine (isId_any _ x.2.1).mono ?_
  rintro e w1 ⟨rfl,rfl⟩
  go_wp2
  go_ret
  refine ⟨Al ?_,(Below.refl _ _).alloc (Nat.le_refl _) _⟩
  simp [h]
 ·have h:=Bool.eq_false_iff.2 h
  go_enter Tryz.func274,Tryz.ntmps274
  go_wp2_with fail
  refine (Ii _ x.1).mono ?_
  rintro e w1 ⟨rfl,rfl⟩
  rw [h]
  go_wp2
  go_ret
  exact ⟨Al (by simp [h]),(Below.refl _ _).alloc (Nat.le_refl _) _⟩
theorem J8 (w : World) (x : Ah) : Calls Tryz.prog 278 #[.agg #[.string (Ab x.1), .string (Ab x.2.1), .int .i64 x.2.2]] w fun e w'=>e = .returned (.int .i64 x.2.2)∧Below w.heap.size w w':=by
 go_enter Tryz.func278,Tryz.ntmps278
 go_wp2
 go_ret
 exact ⟨rfl,(Below.refl _ _).alloc (Nat.le_refl _) _⟩
theorem leaf2_any (w : World) (x : Ag) : Calls Tryz.prog 271 #[.agg #[.string (Ab x.1), .string (Ab x.2)]] w fun e w'=>e = .returned (.string (Ab x.1))∧Below w.heap.size w w':=by
 go_enter Tryz.func271,Tryz.ntmps271
 go_wp2
 go_ret
 exact ⟨rfl,(Below.refl _ _).alloc (Nat.le_refl _) _⟩
theorem Of (w : World) (x : Ah) : Calls Tryz.prog 276 #[.agg #[.string (Ab x.1), .string (Ab x.2.1), .int .i64 x.2.2]] w fun e w'=>e = .returned (.string (Ab x.1))∧Below w.heap.size w w':=by
 go_enter Tryz.func276,Tryz.ntmps276
 go_wp2
 go_ret
 exact ⟨rfl,(Below.refl _ _).alloc (Nat.le_refl _) _⟩
set_option maxRecDepth 20000 in
theorem Kr (w : World) (v : Value) (xs : List (Ag)) (hv : Ls w.heap.size w 2 Ak v xs) :
  Calls Tryz.prog 267 #[v, .func (.func 268) #[] #[]] w fun e w'=>e = .returned (.bool (xs.all (fun p=>As p.1 && decide (p.2.length≤128))))∧Below w.heap.size w w':=by
 obtain ⟨ao,cap,rfl,h1,h2,h4⟩:=hv
 unfold maxLen at h2
 go_enter Tryz.func267,Tryz.ntmps267
 go_wp2_with fail
 go_loopw [9] (fun t wr=>∃ k : Nat,k≤xs.length∧t = .int .i64 k∧(xs.take k).all (fun p=>As p.1 && decide (p.2.length≤128))=true∧Below w.heap.size w wr)
  (fun t _=>xs.length - (intOf t).toNat)
 case atStart=>exact ⟨0,by omega,rfl,by simp,Below.refl _ _⟩
 case round=>
  obtain ⟨k,hk,rfl,hall,hb⟩:=hrel
  have HB:=Ac hb
  have HA:=Ac hall
  clear hb hall
  by_cases hlt : k<xs.length
  ·obtain ⟨b,off,rfl,hbB,hc⟩:=h4 (by rintro rfl; simp at hlt)
   have hst:=I8 (fun p=>As p.1 && decide (p.2.length≤128)) xs k hlt HA.out
   have hno:=I6 (fun p=>As p.1 && decide (p.2.length≤128)) xs k hlt
   have hcell : ∀ i u,(Ak xs[k])[i]? = some u→wr.cell? ⟨b,off+k * 2+i,none⟩=some u:=fun i u hu=>(HB.out.cell (p:=⟨b,off+k * 2+i,none⟩) hbB).trans (hc k hlt i u hu)
   generalize xs[k]=x at *
   have c0:=hcell 0 _ rfl
   have c1:=hcell 1 _ rfl
   try simp only [Nat.add_zero] at c0
   have HST:=Ac hst
   have HNO:=Ac hno
   clear hst hno
   by_cases hf : ((fun p=>As p.1 && decide (p.2.length≤128))) x=true
   ·go_wp2_with fail
    refine (leaf1_any _ x).mono ?_
    rintro e w2 ⟨rfl,hb2⟩
    have HB2 : Hid (Below w.heap.size w w2):=Ac (((HB.out.alloc HB.out.size _).trans (hb2.mono (HB.out.alloc HB.out.size _).size)))
    clear hb2
    (try dsimp only at hf)
    rw [hf]
    go_wp2
    go_roundw
    case rel=>exact ⟨k+1,by omega,by go_num,HST.out hf,HB2.out⟩
    case measure=>simp [intOf]; omega
   ·have hf:=Bool.eq_false_iff.2 hf
    go_wp2_with fail
    refine (leaf1_any _ x).mono ?_
    rintro e w2 ⟨rfl,hb2⟩
    have HB2 : Hid (Below w.heap.size w w2):=Ac (((HB.out.alloc HB.out.size _).trans (hb2.mono (HB.out.alloc HB.out.size _).size)))
    clear hb2
    (try dsimp only at hf)
    rw [hf]
    go_wp2
    go_ret
    exact ⟨Al (HNO.out hf),HB2.out⟩
  ·obtain rfl : k=xs.length:=by omega
   have ht:=HA.out
   rw [List.take_length] at ht
   go_wp2
   go_ret
   exact ⟨Al ht.symm,HB.out⟩
set_option maxRecDepth 20000 in
theorem Ij (w : World) (v : Value) (xs : List (Ah)) (hv : Ls w.heap.size w 3 Au v xs) :
  Calls Tryz.prog 273 #[v, .func (.func 274) #[] #[]] w fun e w'=>e = .returned (.bool (xs.all (fun p=>As p.1 && Ci p.2.1)))∧Below w.heap.size w w':=by
 obtain ⟨ao,cap,rfl,h1,h2,h4⟩:=hv
 unfold maxLen at h2
 go_enter Tryz.func273,Tryz.ntmps273
 go_wp2_with fail
 go_loopw [9] (fun t wr=>∃ k : Nat,k≤xs.length∧t = .int .i64 k∧(xs.take k).all (fun p=>As p.1 && Ci p.2.1)=true∧Below w.heap.size w wr)
  (fun t _=>xs.length - (intOf t).toNat)
 case atStart=>exact ⟨0,by omega,rfl,by simp,Below.refl _ _⟩
 case round=>
  obtain ⟨k,hk,rfl,hall,hb⟩:=hrel
  have HB:=Ac hb
  have HA:=Ac hall
  clear hb hall
  by_cases hlt : k<xs.length
  ·obtain ⟨b,off,rfl,hbB,hc⟩:=h4 (by rintro rfl; simp at hlt)
   have hst:=I8 (fun p=>As p.1 && Ci p.2.1) xs k hlt HA.out
   have hno:=I6 (fun p=>As p.1 && Ci p.2.1) xs k hlt
   have hcell : ∀ i u,(Au xs[k])[i]? = some u→wr.cell? ⟨b,off+k * 3+i,none⟩=some u:=fun i u hu=>(HB.out.cell (p:=⟨b,off+k * 3+i,none⟩) hbB).trans (hc k hlt i u hu)
   generalize xs[k]=x at *
   have c0:=hcell 0 _ rfl
   have c1:=hcell 1 _ rfl
   have c2:=hcell 2 _ rfl
   try simp only [Nat.add_zero] at c0
   have HST:=Ac hst
   have HNO:=Ac hno
   clear hst hno
   by_cases hf : ((fun p=>As p.1 && Ci p.2.1)) x=true
   ·go_wp2_with fail
    refine (M7 _ x).mono ?_
    rintro e w2 ⟨rfl,hb2⟩
    have HB2 : Hid (Below w.heap.size w w2):=Ac (((HB.out.alloc HB.out.size _).trans (hb2.mono (HB.out.alloc HB.out.size _).size)))
    clear hb2
    (try dsimp only at hf)
    rw [hf]
    go_wp2
    go_roundw
    case rel=>exact ⟨k+1,by omega,by go_num,HST.out hf,HB2.out⟩
    case measure=>simp [intOf]; omega
   ·have hf:=Bool.eq_false_iff.2 hf
    go_wp2_with fail
    refine (M7 _ x).mono ?_
    rintro e w2 ⟨rfl,hb2⟩
    have HB2 : Hid (Below w.heap.size w w2):=Ac (((HB.out.alloc HB.out.size _).trans (hb2.mono (HB.out.alloc HB.out.size _).size)))
    clear hb2
    (try dsimp only at hf)
    rw [hf]
    go_wp2
    go_ret
    exact ⟨Al (HNO.out hf),HB2.out⟩
  ·obtain rfl : k=xs.length:=by omega
   have ht:=HA.out
   rw [List.take_length] at ht
   go_wp2
   go_ret
   exact ⟨Al ht.symm,HB.out⟩
set_option maxRecDepth 20000 in
theorem Nv (w : World) (v : Value) (xs : List (Ah)) (hv : Ls w.heap.size w 3 Au v xs) :
  Calls Tryz.prog 277 #[v, .func (.func 278) #[] #[], .int .i64 4096] w fun e w'=>e = .returned (.bool (D6 (xs.map (fun p=>p.2.2)) 4096))∧Below w.heap.size w w':=by
 obtain ⟨ao,cap,rfl,h1,h2,h4⟩:=hv
 unfold maxLen at h2
 go_enter Tryz.func277,Tryz.ntmps277
 go_wp2_with fail
 go_loopw [12,2] (fun t r wr=>∃ (k : Nat) (m : Int),k≤xs.length∧t = .int .i64 k∧r = .int .i64 m∧0≤m∧m≤4096∧D6 (xs.map (fun p=>p.2.2)) 4096=D6 ((xs.drop k).map (fun p=>p.2.2)) m∧Below w.heap.size w wr)
  (fun t _ _=>xs.length - (intOf t).toNat)
 case atStart=>exact ⟨0,4096,by omega,rfl,rfl,by omega,by omega,rfl,Below.refl _ _⟩
 case round=>
  obtain ⟨k,m,hk,rfl,rfl,hm0,hm1,hall,hb⟩:=hrel
  have HB:=Ac hb
  have HA:=Ac hall
  clear hb hall
  by_cases hlt : k<xs.length
  ·obtain ⟨b,off,rfl,hbB,hc⟩:=h4 (by rintro rfl; simp at hlt)
   have hst : D6 ((xs.drop k).map (fun p=>p.2.2)) m=(!(decide (((fun p=>p.2.2)) xs[k]<1∨m<((fun p=>p.2.2)) xs[k])) && D6 ((xs.drop (k+1)).map (fun p=>p.2.2)) (m - ((fun p=>p.2.2)) xs[k])):=by
    rw [List.drop_eq_getElem_cons hlt,List.map_cons]
    rfl
   have hcell : ∀ i u,(Au xs[k])[i]? = some u→wr.cell? ⟨b,off+k * 3+i,none⟩=some u:=fun i u hu=>(HB.out.cell (p:=⟨b,off+k * 3+i,none⟩) hbB).trans (hc k hlt i u hu)
   generalize xs[k]=x at *
   have c0:=hcell 0 _ rfl
   have c1:=hcell 1 _ rfl
   have c2:=hcell 2 _ rfl
   try simp only [Nat.add_zero] at c0
   obtain ⟨x1,x2,n⟩:=x
   dsimp only at hst c0 c1 c2
   have HST:=Ac hst
   clear hst hcell
   by_cases hf : n<1
   ·go_wp2_with fail
    refine (J8 _ (x1,x2,n)).mono ?_
    rintro e w2 ⟨rfl,hb2⟩
    have HB2 : Hid (Below w.heap.size w w2):=Ac (((HB.out.alloc HB.out.size _).trans (hb2.mono (HB.out.alloc HB.out.size _).size)))
    clear hb2
    go_wp2
    go_ret
    refine ⟨Al ?_,HB2.out⟩
    rw [HA.out,HST.out]
    simp [hf]
   ·by_cases hg : m<n
    ·go_wp2_with fail
     refine (J8 _ (x1,x2,n)).mono ?_
     rintro e w2 ⟨rfl,hb2⟩
     have HB2 : Hid (Below w.heap.size w w2):=Ac (((HB.out.alloc HB.out.size _).trans (hb2.mono (HB.out.alloc HB.out.size _).size)))
     clear hb2
     go_wp2
     go_ret
     refine ⟨Al ?_,HB2.out⟩
     rw [HA.out,HST.out]
     simp [hg]
    ·go_wp2_with fail
     refine (J8 _ (x1,x2,n)).mono ?_
     rintro e w2 ⟨rfl,hb2⟩
     have HB2 : Hid (Below w.heap.size w w2):=Ac (((HB.out.alloc HB.out.size _).trans (hb2.mono (HB.out.alloc HB.out.size _).size)))
     clear hb2
     go_wp2
     go_roundw
     case rel=>
      refine ⟨k+1,m - n,by omega,by go_num,by go_num,by omega,by omega,?_,HB2.out⟩
      rw [HA.out,HST.out]
      simp [hf,hg]
     case measure=>simp [intOf]; omega
  ·obtain rfl : k=xs.length:=by omega
   have ht:=HA.out
   rw [List.drop_length] at ht
   go_wp2
   go_ret
   exact ⟨Al (by rw [ht]; rfl),HB.out⟩
end Go.Proofs.YtckejblkppllaaaGreatDoor
namespace Go.Proofs.YtckejblkppllaaaGreatDoor
open Go.RowKit
theorem gb_refl (w : World) (r : Option Nat) : w.grownBy w r:=⟨rfl,rfl,rfl,Nat.le_refl _,fun _ _ _=>rfl⟩
theorem A7 {a b c : World} {r : Option Nat} (h : a.grownBy b r) (k : b.grownBy c r) : a.grownBy c r:=
 ⟨k.os.trans h.os,k.tape.trans h.tape,k.output.trans h.output,Nat.le_trans h.size k.size,fun i hi hr=>(k.block i (Nat.lt_of_lt_of_le hi h.size) hr).trans (h.block i hi hr)⟩
theorem Fu {a b : World} {r : Option Nat} (h : Below a.heap.size a b) : a.grownBy b r:=⟨h.os,h.tape,h.output,h.size,fun i hi _=>h.block i hi⟩
theorem Hk (w : World) (o : Obj) (r : Option Nat) : w.grownBy (w.alloc o) r:=Fu ((Below.refl _ _).alloc (Nat.le_refl _) _)
theorem C0 (w : World) (r : Option Nat) : w.grownBy w.drew r:=Fu ((Below.refl _ _).drew)
theorem Ar (w : World) (g i : Nat) (u : Value) : w.grownBy (w.setCell ⟨g,i,none⟩ u) (some g):=by
 refine ⟨rfl,rfl,rfl,by simp [World.setCell],fun k _ hk=>?_⟩
 have hne : k≠g:=fun e=>hk (by rw [e])
 unfold World.setCell
 simp [Array.getElem?_modify,Ne.symm hne]
variable {N : Nat}
def Und (N g : Nat) (w w' : World) : Prop:=w.heap.size≤w'.heap.size∧∀ k,N≤k→k<g→w'.heap[k]? = w.heap[k]?
theorem und_refl (g : Nat) (w : World) : Und N g w w:=⟨Nat.le_refl _,fun _ _ _=>rfl⟩
theorem D1 {g : Nat} {a b c : World} (h : Und N g a b) (k : Und N g b c) : Und N g a c:=⟨Nat.le_trans h.1 k.1,fun i hN hi=>(k.2 i hN hi).trans (h.2 i hN hi)⟩
theorem C5 {g : Nat} {w w' : World} (hl : g<w.heap.size) (h : w.grownBy w' (some g)) : Und N g w w':=⟨h.size,fun k _ hk=>h.block k (by omega) (fun e=>by injection e with e; omega)⟩
theorem und_set {g n i : Nat} (w : World) (u : Value) (hl : g<w.heap.size) (h : g≤n∨n<N) : Und N g w (w.setCell ⟨n,i,none⟩ u):=⟨(Ar w n i u).size,fun k _ hk=>(Ar w n i u).block k (by omega) (fun e=>by injection e with e; omega)⟩
def Rd (N : Nat) (w : World) (g : Nat) (l : Bs) (s : Pos) : Prop:=
 ∃ v,w.heap[g]? = some (.cells #[v, .int .i64 ((s.getD l.length : Nat) : Int), .bool s.isNone] 298)∧(∀ w',Und N g w w'→Sl w' v l)∧(∀ a,s=some a→a≤l.length)
theorem Rd.lt {w : World} {g : Nat} {l : Bs} {s : Pos} (h : Rd N w g l s) : g<w.heap.size:=by
 obtain ⟨v,h1,_⟩:=h
 exact Ad h1
theorem Rd.keep {w w' : World} {g : Nat} {l : Bs} {s : Pos} (h : Rd N w g l s) (hb : Below w.heap.size w w') : Rd N w' g l s:=by
 have hl:=h.lt
 obtain ⟨v,h1,h2,h3⟩:=h
 exact ⟨v,(hb.block g hl).trans h1,fun w2 hw=>h2 w2 (D1 (C5 hl (Fu hb)) hw),h3⟩
theorem Rd.alloc {w : World} {g : Nat} {l : Bs} {s : Pos} (h : Rd N w g l s) (o : Obj) : Rd N (w.alloc o) g l s:=h.keep ((Below.refl _ _).alloc (Nat.le_refl _) _)
theorem Az {w : World} {g : Nat} {v0 v1 v2 u1 : Value} {t : TypeId} (h : w.heap[g]? = some (.cells #[v0,v1,v2] t)) : (w.setCell ⟨g,1,none⟩ u1).heap[g]? = some (.cells #[v0,u1,v2] t):=by
 rw [heap_setCell _ _ _ _ _ _ _ h]
 simp
theorem F6 {w : World} {g : Nat} {v0 v1 v2 u2 : Value} {t : TypeId} (h : w.heap[g]? = some (.cells #[v0,v1,v2] t)) : (w.setCell ⟨g,2,none⟩ u2).heap[g]? = some (.cells #[v0,v1,u2] t):=by
 rw [heap_setCell _ _ _ _ _ _ _ h]
 simp
theorem goTo_ok (w : World) (g : Nat) (l : Bs) (a q : Nat) (h : Rd N w g l (some a)) (hq : q≤l.length) :
  Calls Tryz.prog 189 #[.pointer (some ⟨g,0,none⟩), .int .i64 (q : Int), .bool true] w fun e w'=>e = .returned (.tuple #[])∧Rd N w' g l (some q)∧w.grownBy w' (some g):=by
 obtain ⟨v,h1,h2,h3⟩:=h
 have c1:=cell_of_row w g 1 _ _ _ h1
 simp only [List.getElem?_toArray,List.getElem?_cons_zero,List.getElem?_cons_succ] at c1
 have f1:=Af (j:=1) h1
 go_enter Tryz.func189,Tryz.ntmps189
 go_wp2
 go_end0
 exact ⟨rfl,⟨v,Az h1,fun w2 hw=>h2 w2 (D1 (C5 (Ad h1) (Ar _ _ _ _)) hw),fun b hb=>by injection hb with hb; omega⟩,Ar _ _ _ _⟩
set_option maxRecDepth 20000 in
theorem Hh (w : World) (g : Nat) (l : Bs) (s : Pos) (q : Int) (h : Rd N w g l s) :
  Calls Tryz.prog 189 #[.pointer (some ⟨g,0,none⟩), .int .i64 q, .bool false] w fun e w'=>e = .returned (.tuple #[])∧Rd N w' g l none∧w.grownBy w' (some g):=by
 obtain ⟨v,h1,h2,h3⟩:=h
 have c0:=cell_of_row w g 0 _ _ _ h1
 have c1:=cell_of_row w g 1 _ _ _ h1
 have c2:=cell_of_row w g 2 _ _ _ h1
 simp only [List.getElem?_toArray,List.getElem?_cons_zero,List.getElem?_cons_succ] at c0 c1 c2
 have f2:=Af (j:=2) h1
 have hs:=h2 w (und_refl _ _)
 have h1':=F6 (u2:=.bool true) h1
 have d1:=cell_of_row _ g 1 _ _ _ h1'
 simp only [List.getElem?_toArray,List.getElem?_cons_zero,List.getElem?_cons_succ] at d1
 have e1:=Af (j:=1) h1'
 go_enter Tryz.func189,Tryz.ntmps189
 go_wp2_with fail
 refine (Gg w g v l c0 hs).mono ?_
 rintro e w1 ⟨rfl,rfl⟩
 go_wp2
 go_end0
 refine ⟨rfl,⟨v,Az h1',fun w2 hw=>h2 w2 (D1 (C5 (Ad h1) (A7 (Ar _ _ _ _) (Ar _ _ _ _))) hw),fun b hb=>by cases hb⟩,A7 (Ar _ _ _ _) (Ar _ _ _ _)⟩
def Bq (N K : Nat) (args : Array Value) (w : World) (g : Nat) (l : Bs) (v : Value) (s : Pos) : Prop:=
 Calls Tryz.prog K args w fun e w'=>e = .returned v∧Rd N w' g l s∧w.grownBy w' (some g)
theorem takeT_at_end (l : Bs) (m : Int) : Da l (l.length : Int) m=none:=by unfold Da; rw [takeI_end l]
set_option maxRecDepth 20000 in
theorem Lw (w : World) (g : Nat) (l : Bs) (s : Pos) (h : Rd N w g l s) (hl : l.length≤140737488355328) :
  Bq N 188 #[.pointer (some ⟨g,0,none⟩)] w g l (.int .i64 (rI l s).1) (rI l s).2:=by
 have hR:=h
 obtain ⟨v,h1,h2,h3⟩:=h
 have c0:=cell_of_row w g 0 _ _ _ h1
 have c1:=cell_of_row w g 1 _ _ _ h1
 simp only [List.getElem?_toArray,List.getElem?_cons_zero,List.getElem?_cons_succ] at c0 c1
 have hs:=h2 w.drew (C5 (Ad h1) (C0 _ _))
 have hd : Rd N w.drew g l s:=hR.keep (Below.refl _ _).drew
 have HD:=Ac hd
 have hp : ((s.getD l.length : Nat) : Int)≤9223372036854775807:=by
  cases s with
  | none=>simp; omega
  | some a=>have:=h3 a rfl; simp; omega
 unfold Bq
 cases ht : Cc l ((s.getD l.length : Nat) : Int) with
 | none=>
  have hr : rI l s=(0,none):=by
   cases s with
   | none=>rfl
   | some a=>simp only [Option.getD_some] at ht; simp only [rI]; rw [ht]
  rw [hr]
  have HT:=Ac ht
  clear ht hr h1 h2 h3 hR hd
  generalize ((s.getD l.length : Nat) : Int)=p at *
  go_enter Tryz.func188,Tryz.ntmps188
  go_wp2_with fail
  refine wp_region_held_drew (S:=fun W=>W.cell? ⟨g,0,none⟩=some v∧W.cell? ⟨g,1,none⟩=some (.int .i64 p)) (by kernel_rfl) (⟨c0,c1⟩) (fun hHeld=>?_)
  refine Aa 0 hHeld ?_
  refine Aa 1 hHeld ?_
  refine Aa 2 hHeld ?_
  refine Aa 3 hHeld ?_
  refine Aa 4 hHeld ?_
  refine Aa 5 hHeld ?_
  refine Aa 6 hHeld ?_
  refine Aa 7 hHeld ?_
  refine Aa 8 hHeld ?_
  refine Ai (i:=9) rfl (by kernel_rfl) rfl (fun K hK=>?_)
  go_simp
  refine (Od _ _ l p hs hp HT.out).mono ?_
  rintro e w1 ⟨rfl,rfl⟩
  refine hK.out _ _ (⟨c0,c1⟩) (fun hHeld=>?_)
  clear hK K
  try simp only [Act.put,List.setIfInBounds_toArray,List.set_cons_zero,List.set_cons_succ]
  refine Aa 10 hHeld ?_
  refine Aa 11 hHeld ?_
  refine Aa 12 hHeld ?_
  refine Aa 13 hHeld ?_
  refine Aa 14 hHeld ?_
  refine Aa 15 hHeld ?_
  refine Aa 16 hHeld ?_
  refine wpAnyH_done (by kernel_rfl) ?_ _
  clear hHeld
  go_wp2_with fail
  refine (Hh _ g l s 0 HD.out).mono ?_
  rintro e w1 ⟨rfl,hR1,hg1⟩
  go_wp2
  go_ret
  exact ⟨rfl,hR1,A7 (C0 _ _) hg1⟩
 | some x=>
  obtain ⟨n,q⟩:=x
  obtain ⟨a,rfl⟩ : ∃ a,s=some a:=by
   cases s with
   | none=>simp only [Option.getD_none] at ht; rw [takeI_end] at ht; cases ht
   | some a=>exact ⟨a,rfl⟩
  have hr : rI l (some a)=(n,some q):=by simp only [Option.getD_some] at ht; simp only [rI]; rw [ht]
  rw [hr]
  have hq:=(Hd ht).2.2.1
  have HT:=Ac ht
  clear ht hr h1 h2 h3 hR hd
  simp only [Option.getD_some] at *
  go_enter Tryz.func188,Tryz.ntmps188
  go_wp2_with fail
  refine wp_region_held_drew (S:=fun W=>W.cell? ⟨g,0,none⟩=some v∧W.cell? ⟨g,1,none⟩=some (.int .i64 (a : Int))) (by kernel_rfl) (⟨c0,c1⟩) (fun hHeld=>?_)
  refine Aa 0 hHeld ?_
  refine Aa 1 hHeld ?_
  refine Aa 2 hHeld ?_
  refine Aa 3 hHeld ?_
  refine Aa 4 hHeld ?_
  refine Aa 5 hHeld ?_
  refine Aa 6 hHeld ?_
  refine Aa 7 hHeld ?_
  refine Aa 8 hHeld ?_
  refine Ai (i:=9) rfl (by kernel_rfl) rfl (fun K hK=>?_)
  go_simp
  refine (Ku _ _ l a n q hs hp HT.out).mono ?_
  rintro e w1 ⟨rfl,rfl⟩
  refine hK.out _ _ (⟨c0,c1⟩) (fun hHeld=>?_)
  clear hK K
  try simp only [Act.put,List.setIfInBounds_toArray,List.set_cons_zero,List.set_cons_succ]
  refine Aa 10 hHeld ?_
  refine Aa 11 hHeld ?_
  refine Aa 12 hHeld ?_
  refine Aa 13 hHeld ?_
  refine Aa 14 hHeld ?_
  refine Aa 15 hHeld ?_
  refine Aa 16 hHeld ?_
  refine wpAnyH_done (by kernel_rfl) ?_ _
  clear hHeld
  go_wp2_with fail
  refine (goTo_ok _ g l a q HD.out hq).mono ?_
  rintro e w1 ⟨rfl,hR1,hg1⟩
  go_wp2
  go_ret
  exact ⟨rfl,hR1,A7 (C0 _ _) hg1⟩
set_option maxRecDepth 20000 in
theorem Js (w : World) (g : Nat) (l : Bs) (s : Pos) (h : Rd N w g l s) (hl : l.length≤140737488355328) :
  Bq N 266 #[.pointer (some ⟨g,0,none⟩)] w g l (.string (Ab (rT l l.length s).1)) (rT l l.length s).2:=by
 have hR:=h
 obtain ⟨v,h1,h2,h3⟩:=h
 have c0:=cell_of_row w g 0 _ _ _ h1
 have c1:=cell_of_row w g 1 _ _ _ h1
 simp only [List.getElem?_toArray,List.getElem?_cons_zero,List.getElem?_cons_succ] at c0 c1
 have hs:=h2 w.drew (C5 (Ad h1) (C0 _ _))
 have hd : Rd N w.drew g l s:=hR.keep (Below.refl _ _).drew
 have HD:=Ac hd
 have hp : ((s.getD l.length : Nat) : Int)≤9223372036854775807:=by
  cases s with
  | none=>simp; omega
  | some a=>have:=h3 a rfl; simp; omega
 unfold Bq
 cases ht : Da l ((s.getD l.length : Nat) : Int) l.length with
 | none=>
  have hr : rT l l.length s=([],none):=by
   cases s with
   | none=>rfl
   | some a=>simp only [Option.getD_some] at ht; simp only [rT]; rw [ht]
  rw [hr]
  have HT:=Ac ht
  clear ht hr h1 h2 h3 hR hd
  generalize ((s.getD l.length : Nat) : Int)=p at *
  go_enter Tryz.func266,Tryz.ntmps266
  go_wp2_with fail
  refine wp_region_held_drew (S:=fun W=>W.cell? ⟨g,0,none⟩=some v∧W.cell? ⟨g,1,none⟩=some (.int .i64 p)) (by kernel_rfl) (⟨c0,c1⟩) (fun hHeld=>?_)
  refine Aa 0 hHeld ?_
  refine Aa 1 hHeld ?_
  refine Aa 2 hHeld ?_
  refine Aa 3 hHeld ?_
  refine Aa 4 hHeld ?_
  refine Aa 5 hHeld ?_
  refine Aa 6 hHeld ?_
  refine Aa 7 hHeld ?_
  refine Aa 8 hHeld ?_
  refine Aa 9 hHeld ?_
  refine Aa 10 hHeld ?_
  refine Aa 11 hHeld ?_
  refine Ai (i:=12) rfl (by kernel_rfl) rfl (fun K hK=>?_)
  go_simp
  refine (Gg w.drew g v l c0 hs).mono ?_
  rintro e w1 ⟨rfl,rfl⟩
  refine hK.out _ _ (⟨c0,c1⟩) (fun hHeld=>?_)
  clear hK K
  try simp only [Act.put,List.setIfInBounds_toArray,List.set_cons_zero,List.set_cons_succ]
  refine Ai (i:=13) rfl (by kernel_rfl) rfl (fun K hK=>?_)
  go_simp
  refine (Ou _ _ l p l.length hs hp HT.out).mono ?_
  rintro e w1 ⟨rfl,rfl⟩
  refine hK.out _ _ (⟨c0,c1⟩) (fun hHeld=>?_)
  clear hK K
  try simp only [Act.put,List.setIfInBounds_toArray,List.set_cons_zero,List.set_cons_succ]
  refine Aa 14 hHeld ?_
  refine Aa 15 hHeld ?_
  refine Aa 16 hHeld ?_
  refine Aa 17 hHeld ?_
  refine Aa 18 hHeld ?_
  refine Aa 19 hHeld ?_
  refine Aa 20 hHeld ?_
  refine wpAnyH_done (by kernel_rfl) ?_ _
  clear hHeld
  go_wp2_with fail
  refine (Hh _ g l s 0 HD.out).mono ?_
  rintro e w1 ⟨rfl,hR1,hg1⟩
  go_wp2
  go_ret
  exact ⟨rfl,hR1,A7 (C0 _ _) hg1⟩
 | some x=>
  obtain ⟨n,q⟩:=x
  obtain ⟨a,rfl⟩ : ∃ a,s=some a:=by
   cases s with
   | none=>simp only [Option.getD_none] at ht; rw [takeT_at_end] at ht; cases ht
   | some a=>exact ⟨a,rfl⟩
  have hr : rT l l.length (some a)=(n,some q):=by simp only [Option.getD_some] at ht; simp only [rT]; rw [ht]
  rw [hr]
  have hq:=(K6 ht).2.2.1
  have HT:=Ac ht
  clear ht hr h1 h2 h3 hR hd
  simp only [Option.getD_some] at *
  go_enter Tryz.func266,Tryz.ntmps266
  go_wp2_with fail
  refine wp_region_held_drew (S:=fun W=>W.cell? ⟨g,0,none⟩=some v∧W.cell? ⟨g,1,none⟩=some (.int .i64 (a : Int))) (by kernel_rfl) (⟨c0,c1⟩) (fun hHeld=>?_)
  refine Aa 0 hHeld ?_
  refine Aa 1 hHeld ?_
  refine Aa 2 hHeld ?_
  refine Aa 3 hHeld ?_
  refine Aa 4 hHeld ?_
  refine Aa 5 hHeld ?_
  refine Aa 6 hHeld ?_
  refine Aa 7 hHeld ?_
  refine Aa 8 hHeld ?_
  refine Aa 9 hHeld ?_
  refine Aa 10 hHeld ?_
  refine Aa 11 hHeld ?_
  refine Ai (i:=12) rfl (by kernel_rfl) rfl (fun K hK=>?_)
  go_simp
  refine (Gg w.drew g v l c0 hs).mono ?_
  rintro e w1 ⟨rfl,rfl⟩
  refine hK.out _ _ (⟨c0,c1⟩) (fun hHeld=>?_)
  clear hK K
  try simp only [Act.put,List.setIfInBounds_toArray,List.set_cons_zero,List.set_cons_succ]
  refine Ai (i:=13) rfl (by kernel_rfl) rfl (fun K hK=>?_)
  go_simp
  refine (Pc _ _ l a l.length n q hs hp HT.out).mono ?_
  rintro e w1 ⟨rfl,rfl⟩
  refine hK.out _ _ (⟨c0,c1⟩) (fun hHeld=>?_)
  clear hK K
  try simp only [Act.put,List.setIfInBounds_toArray,List.set_cons_zero,List.set_cons_succ]
  refine Aa 14 hHeld ?_
  refine Aa 15 hHeld ?_
  refine Aa 16 hHeld ?_
  refine Aa 17 hHeld ?_
  refine Aa 18 hHeld ?_
  refine Aa 19 hHeld ?_
  refine Aa 20 hHeld ?_
  refine wpAnyH_done (by kernel_rfl) ?_ _
  clear hHeld
  go_wp2_with fail
  refine (goTo_ok _ g l a q HD.out hq).mono ?_
  rintro e w1 ⟨rfl,hR1,hg1⟩
  go_wp2
  go_ret
  exact ⟨rfl,hR1,A7 (C0 _ _) hg1⟩
set_option maxRecDepth 20000 in
theorem Mm (w : World) (g : Nat) (l : Bs) (s : Pos) (h : Rd N w g l s) (hl : l.length≤140737488355328) :
  Bq N 190 #[.pointer (some ⟨g,0,none⟩)] w g l (.string (Ab (rD l s).1)) (rD l s).2:=by
 have hR:=h
 obtain ⟨v,h1,h2,h3⟩:=h
 have c0:=cell_of_row w g 0 _ _ _ h1
 have c1:=cell_of_row w g 1 _ _ _ h1
 simp only [List.getElem?_toArray,List.getElem?_cons_zero,List.getElem?_cons_succ] at c0 c1
 have hs:=h2 w.drew (C5 (Ad h1) (C0 _ _))
 have hd : Rd N w.drew g l s:=hR.keep (Below.refl _ _).drew
 have HD:=Ac hd
 unfold Bq
 have hp : s.getD l.length≤l.length:=by
  cases s with
  | none=>simp
  | some a=>exact h3 a rfl
 by_cases ht : s.getD l.length+32≤l.length
 ·obtain ⟨a,rfl⟩ : ∃ a,s=some a:=by
   cases s with
   | none=>simp only [Option.getD_none] at ht; omega
   | some a=>exact ⟨a,rfl⟩
  simp only [Option.getD_some] at *
  have hr : rD l (some a)=((l.drop a).take 32,some (a+32)):=by simp only [rD]; rw [if_pos ht]
  rw [hr]
  have HS:=Ac hs
  clear hr h1 h2 h3 hR hd
  go_enter Tryz.func190,Tryz.ntmps190
  go_wp2_with fail
  refine wp_region_held_drew (S:=fun W=>W.cell? ⟨g,1,none⟩=some (.int .i64 (a : Int))) (by kernel_rfl) (c1) (fun hHeld=>?_)
  refine Aa 0 hHeld ?_
  refine Aa 1 hHeld ?_
  refine Aa 2 hHeld ?_
  refine Aa 3 hHeld ?_
  refine Aa 4 hHeld ?_
  refine Aa 5 hHeld ?_
  refine Aa 6 hHeld ?_
  refine Aa 7 hHeld ?_
  refine Aa 8 hHeld ?_
  refine Aa 9 hHeld ?_
  refine Aa 10 hHeld ?_
  refine wpAnyH_done (by kernel_rfl) ?_ _
  clear hHeld
  go_wp2_with fail
  refine (Gg w.drew g v l c0 hs).mono ?_
  rintro e w1 ⟨rfl,rfl⟩
  go_wp2_with fail
  have hgo:=goTo_ok _ g l a (a+32) HD.out ht
  rw [show ((a+32 : Nat) : Int)=(a : Int)+32 from by omega] at hgo
  rw [show decide ((a : Int)+32≤(l.length : Int))=true from by simp; omega]
  refine hgo.mono ?_
  rintro e w1 ⟨rfl,hR1,hg1⟩
  have hR1':=hR1
  obtain ⟨v1,k1,k2,-⟩:=hR1'
  have d0:=cell_of_row w1 g 0 _ _ _ k1
  simp only [List.getElem?_toArray,List.getElem?_cons_zero] at d0
  have hs1:=k2 w1 (und_refl _ _)
  have HR1:=Ac hR1
  clear hR1 k1 k2
  go_wp2_with fail
  refine (piece_any w1 g v1 l a 32 d0 hs1 ht _ (by omega)).mono ?_
  rintro e w2 ⟨rfl,rfl⟩
  go_wp2
  go_ret
  exact ⟨rfl,HR1.out,A7 (C0 _ _) hg1⟩
 ·have hr : rD l s=([],none):=by
   cases s with
   | none=>rfl
   | some a=>simp only [Option.getD_some] at ht; simp only [rD]; rw [if_neg ht]
  rw [hr]
  clear hr h1 h2 h3 hR hd
  generalize s.getD l.length=p at *
  go_enter Tryz.func190,Tryz.ntmps190
  go_wp2_with fail
  refine wp_region_held_drew (S:=fun W=>W.cell? ⟨g,1,none⟩=some (.int .i64 (p : Int))) (by kernel_rfl) (c1) (fun hHeld=>?_)
  refine Aa 0 hHeld ?_
  refine Aa 1 hHeld ?_
  refine Aa 2 hHeld ?_
  refine Aa 3 hHeld ?_
  refine Aa 4 hHeld ?_
  refine Aa 5 hHeld ?_
  refine Aa 6 hHeld ?_
  refine Aa 7 hHeld ?_
  refine Aa 8 hHeld ?_
  refine Aa 9 hHeld ?_
  refine Aa 10 hHeld ?_
  refine wpAnyH_done (by kernel_rfl) ?_ _
  clear hHeld
  go_wp2_with fail
  refine (Gg w.drew g v l c0 hs).mono ?_
  rintro e w1 ⟨rfl,rfl⟩
  go_wp2_with fail
  rw [show decide ((p : Int)+32≤(l.length : Int))=false from by simp; omega]
  refine (Hh _ g l s _ HD.out).mono ?_
  rintro e w1 ⟨rfl,hR1,hg1⟩
  go_wp2
  go_ret
  exact ⟨rfl,hR1,A7 (C0 _ _) hg1⟩
theorem rI_64 (l : Bs) (s : Pos) : Cg (rI l s).1:=by
 unfold rI Cg
 cases s with
 | none=>simp
 | some a=>
  simp only
  cases h : Cc l a with
  | none=>simp
  | some x=>
   obtain ⟨n,q⟩:=x
   obtain ⟨_,_,_,_,h5,h6,_⟩:=Hd h
   exact ⟨h5,h6⟩
set_option maxRecDepth 20000 in
theorem F4 (w : World) (g : Nat) (l : Bs) (s : Pos) (most : Int) (h : Rd N w g l s) (hl : l.length≤140737488355328) :
  Bq N 153 #[.pointer (some ⟨g,0,none⟩), .int .i64 most] w g l (.int .i64 (rC l most s).1) (rC l most s).2:=by
 have hT:=Lw w g l s h hl
 have h64:=rI_64 l s
 unfold Bq at *
 unfold rC
 generalize hx : rI l s=x at *
 obtain ⟨n,q⟩:=x
 simp only at *
 by_cases h1 : n<0
 ·rw [if_pos (.inl h1)]
  go_enter Tryz.func153,Tryz.ntmps153
  go_wp2_with fail
  refine hT.mono ?_
  rintro e w1 ⟨rfl,hR1,hg1⟩
  go_wp2_with fail
  refine (Hh _ g l _ _ hR1).mono ?_
  rintro e w2 ⟨rfl,hR2,hg2⟩
  go_wp2
  go_ret
  exact ⟨rfl,hR2,A7 hg1 hg2⟩
 ·by_cases h2 : most<n
  ·rw [if_pos (.inr h2)]
   go_enter Tryz.func153,Tryz.ntmps153
   go_wp2_with fail
   refine hT.mono ?_
   rintro e w1 ⟨rfl,hR1,hg1⟩
   go_wp2_with fail
   refine (Hh _ g l _ _ hR1).mono ?_
   rintro e w2 ⟨rfl,hR2,hg2⟩
   go_wp2
   go_ret
   exact ⟨rfl,hR2,A7 hg1 hg2⟩
  ·rw [if_neg (by omega)]
   go_enter Tryz.func153,Tryz.ntmps153
   go_wp2_with fail
   refine hT.mono ?_
   rintro e w1 ⟨rfl,hR1,hg1⟩
   go_wp2
   go_ret
   exact ⟨rfl,hR1,hg1⟩
set_option maxRecDepth 20000 in
theorem E7 (w : World) (g : Nat) (l : Bs) (s : Pos) (h : Rd N w g l s) :
  Calls Tryz.prog 155 #[.pointer (some ⟨g,0,none⟩)] w fun e w'=>e = .returned (.bool (decide (s=some l.length)))∧Below w.heap.size w w':=by
 obtain ⟨v,h1,h2,h3⟩:=h
 have c0:=cell_of_row w g 0 _ _ _ h1
 have c1:=cell_of_row w g 1 _ _ _ h1
 have c2:=cell_of_row w g 2 _ _ _ h1
 simp only [List.getElem?_toArray,List.getElem?_cons_zero,List.getElem?_cons_succ] at c0 c1 c2
 have hs:=h2 w.drew (C5 (Ad h1) (C0 _ _))
 clear h1 h2
 cases s with
 | none=>
  simp only [Option.getD_none,Option.isNone_none] at *
  go_enter Tryz.func155,Tryz.ntmps155
  go_wp2_with fail
  refine wp_region_held_drew (S:=fun W=>W.cell? ⟨g,1,none⟩=some (.int .i64 (l.length : Int))∧W.cell? ⟨g,2,none⟩=some (.bool true)) (by kernel_rfl) (⟨c1,c2⟩) (fun hHeld=>?_)
  refine Aa 0 hHeld ?_
  refine Aa 1 hHeld ?_
  refine Aa 2 hHeld ?_
  refine Aa 3 hHeld ?_
  refine Aa 4 hHeld ?_
  refine Aa 5 hHeld ?_
  refine Ae 6 hHeld ?_
  refine Ae 7 hHeld ?_
  refine Ae 8 hHeld ?_
  refine Ae 9 hHeld ?_
  refine Ae 10 hHeld ?_
  refine Ae 11 hHeld ?_
  refine Ae 12 hHeld ?_
  refine Ae 13 hHeld ?_
  refine Ae 14 hHeld ?_
  refine Aa 15 hHeld ?_
  refine Aa 16 hHeld ?_
  refine wpAnyH_done (by kernel_rfl) ?_ _
  clear hHeld
  go_wp2
  go_ret
  exact ⟨Al (by simp),(Below.refl _ _).drew⟩
 | some a=>
  simp only [Option.getD_some,Option.isNone_some] at *
  go_enter Tryz.func155,Tryz.ntmps155
  go_wp2_with fail
  refine wp_region_held_drew (S:=fun W=>W.cell? ⟨g,1,none⟩=some (.int .i64 (a : Int))∧W.cell? ⟨g,2,none⟩=some (.bool false)) (by kernel_rfl) (⟨c1,c2⟩) (fun hHeld=>?_)
  refine Aa 0 hHeld ?_
  refine Aa 1 hHeld ?_
  refine Aa 2 hHeld ?_
  refine Aa 3 hHeld ?_
  refine Aa 4 hHeld ?_
  refine Aa 5 hHeld ?_
  refine Aa 6 hHeld ?_
  refine Aa 7 hHeld ?_
  refine Aa 8 hHeld ?_
  refine Aa 9 hHeld ?_
  refine Aa 10 hHeld ?_
  refine Aa 11 hHeld ?_
  refine Aa 12 hHeld ?_
  refine Ai (i:=13) rfl (by kernel_rfl) rfl (fun K hK=>?_)
  go_simp
  refine (Gg w.drew g v l c0 hs).mono ?_
  rintro e w1 ⟨rfl,rfl⟩
  refine hK.out _ _ (⟨c1,c2⟩) (fun hHeld=>?_)
  clear hK K
  try simp only [Act.put,List.setIfInBounds_toArray,List.set_cons_zero,List.set_cons_succ]
  refine Aa 14 hHeld ?_
  refine Aa 15 hHeld ?_
  refine Aa 16 hHeld ?_
  refine wpAnyH_done (by kernel_rfl) ?_ _
  clear hHeld
  go_wp2
  go_ret
  refine ⟨Al ?_,(Below.refl _ _).drew⟩
  rw [Bool.eq_iff_iff]; simp <;> omega
end Go.Proofs.YtckejblkppllaaaGreatDoor
namespace Go.Proofs.YtckejblkppllaaaGreatDoor
open Go.RowKit
theorem wpList_want {P : Program} {w : World} {ops : Array Oper} {rest : List Oper} {o : Oper} {a : Act} {Q : Exit→Act→World→Prop} (hw : Region.wanted o (yielded ops a.tmps)=true)
  (h : ∀ K : Act→World→Prop,(∀ a w,wpList P ops Q rest a w→K a w)→o.wp P a w K Q) : wpList P ops Q (o :: rest) a w:=
 wpList_step fun K hK=>by rw [if_pos hw]; exact h K hK
theorem cell_at_new (w : World) (C : Array Value) (e : TypeId) (fr : Nat × Nat) (j : Nat) : (w.alloc (.cells C e fr)).cell? ⟨w.heap.size,j,none⟩=C[j]?:=by
 have : (w.alloc (.cells C e fr)).heap[w.heap.size]? = some (.cells C e fr):=by
  show (w.heap.push (.cells C e fr))[w.heap.size]? = _
  simp
 unfold World.cell?
 simp only [this]
 rfl
theorem G5 (w : World) {ops : Array Oper} {rest : List Oper} {o : Oper} {a : Act} {Q : Exit→Act→World→Prop} (hg : Region.wanted o (yielded ops a.tmps)=true) (x : Operand) (hop : o.op=Op.convert 9 137 x)
  (s : ByteArray) (hs : s.size≤maxLen) (hx : a.eval x = .string s)
  (hK : ∀ v' w',Sl w' v' s.data.toList→Below w.heap.size w w'→(∀ b off n c,v' = .slice (some ⟨b,off,none⟩) n c→w.heap.size≤b)→wpList Tryz.prog ops Q rest (a.put o.dst v') w') : wpList Tryz.prog ops Q (o :: rest) a w:=by
 refine wpList_want hg fun K hK'=>?_
 have hr:=run_bytes_of_string (P:=Tryz.prog) w 9 137 5 s Tryz.underlying9 Tryz.underlying137 Tryz.underlying5
 have hlen : s.data.toList.length=s.size:=by simp
 have hge:=grownCap_ge w s.size 0 5
 have hle:=grownCap_le_maxLen w s.size 0 5 hs
 unfold Oper.wp
 simp only [execOp,hop,hx,Result.andThen,Sem.run_bind,hr]
 refine hK' _ _ (hK _ _ ?_ (((Below.refl _ _).drew).alloc (by simp) _) (fun b off n c e=>by injection e with e; injection e with e; injection e with e; omega))
 refine ⟨_,grownCap w s.size 0 5,by rw [hlen],by omega,hle,by simp,fun _=>⟨w.heap.size,0,rfl,by simp,fun j hj=>?_⟩⟩
 have:=cell_at_new w.drew (bytesRow s (grownCap w s.size 0 5)) 5 ((bytesRow s (grownCap w s.size 0 5)).size,(bytesRow s (grownCap w s.size 0 5)).size+1) j
 rw [show w.drew.heap.size=w.heap.size from rfl] at this
 rw [Nat.zero_add,this,bytesRow_at s _ j (by simpa using hj)]
 simp
theorem Tryz.cellsB : Tryz.prog.cellsOf 5=1:=by kernel_rfl
theorem Tryz.sizeB1 : (Tryz.prog.info? 5).map (·.size)=some 1:=by kernel_rfl
theorem byteCells_bc (l : List UInt8) : Lib.byteCells l=bc l:=rfl
set_option maxRecDepth 20000 in
theorem copyStr_in (w : World) (l : List UInt8) (hl : l.length≤140737488355328) :
  Calls Tryz.prog 115 #[.string (Ab l)] w fun e w'=>e = .returned (.string (Ab l))∧Below w.heap.size w w':=by
 have hsz:=A1 l
 by_cases h0 : l = []
 ·subst h0
  have hz : (Ab []).size=0:=rfl
  clear hsz
  go_enter Tryz.func115,Tryz.ntmps115
  go_wp2
  go_ret
  exact ⟨rfl,Below.refl _ _⟩
 ·have hpos : 0<l.length:=List.length_pos_iff.2 h0
  obtain ⟨i0,hi,hz0,hz1,hz2⟩:=info_parts Tryz.infoB
  have hmk : ∀ W : World,∃ M : Array Value,M.size=l.length∧(Instr.makeSlice 137 (.int .i64 (l.length : Int)) (.int .i64 (l.length : Int))).run Tryz.prog W = .ok (.slice (some ⟨W.heap.size,0,none⟩) l.length l.length) (W.alloc (.cells M 5)):=fun W=>by
   refine ⟨madeCells (Value.int .u8 0).cells (((l.length : Nat) : Int).toNat * i0.size),by rw [size_madeCells,hz1]; simp,?_⟩
   have h:=run_make (P:=Tryz.prog) W 137 5 i0 (.int .u8 0) Tryz.underlying137 hi hz0 .i64 .i64 (l.length : Int) (l.length : Int) (by omega) (by omega) (by rw [hz2]; omega) (by omega)
   simpa using h
  obtain ⟨M,hM,hmk⟩:=hmk w
  have hcp:=Lib.run_copy_row_string (P:=Tryz.prog) (w.alloc (.cells M 5)) 137 9 3 5 w.heap.size 0 l.length l.length (Ab l) M 5 Tryz.underlying137 Tryz.sizeB1 (heap_last w _ _ rfl) (by omega) (by omega)
  have hY : (M.toList.take 0++Lib.byteCells (Ab l).data.toList++M.toList.drop (0+(Ab l).size))=bc l:=by
   rw [List.take_zero,List.nil_append,List.drop_of_length_le (by rw [Array.length_toList]; omega),List.append_nil,B0,byteCells_bc]
  rw [hY,hsz] at hcp
  have hgY : ((w.alloc (.cells M 5)).setRow w.heap.size (bc l).toArray).heap[w.heap.size]? = some (.cells (bc l).toArray 5 (0,0)):=setRow_heap _ _ M _ _ (0,0) (heap_last w _ _ rfl)
  have hUS:=Lib.run_unsafeString_row (P:=Tryz.prog) ((w.alloc (.cells M 5)).setRow w.heap.size (bc l).toArray) 268 3 9 5 Tryz.underlying268 Tryz.cellsB w.heap.size (bc l).toArray.size (by unfold World.shape?; rw [hgY]) l h0 (by simp [Di]) (by omega)
   (fun j x hx=>by
    have hj : j<l.length:=(List.getElem?_eq_some_iff.1 hx).1
    rw [Addr.add_lit,Nat.zero_add,cell_of_row _ _ _ _ _ _ hgY,List.getElem?_toArray,bc_get l j hj]
    rw [List.getElem?_eq_getElem hj] at hx
    injection hx with hx
    rw [hx])
  have hb1 : Below w.heap.size w ((w.alloc (.cells M 5)).setRow w.heap.size (bc l).toArray):=
   ((Below.refl _ w).alloc (Nat.le_refl _) _).trans ⟨rfl,rfl,rfl,by simp,fun k hk=>setRow_other _ _ _ _ (by omega)⟩
  have HB:=Ac (Lib.below_freeze hb1 (p:=⟨w.heap.size,0,none⟩) (Nat.le_refl _) l.length)
  clear hb1 hgY hY hM
  generalize (w.alloc (.cells M 5)).setRow w.heap.size (bc l).toArray=W2 at *
  go_enter Tryz.func115,Tryz.ntmps115
  go_wp2
  go_ret
  exact ⟨rfl,HB.out⟩
theorem M9 (w : World) (l : List UInt8) (hl : l.length≤140737488355328) :
  Calls Tryz.prog 70 #[.string (Ab l)] w fun e w'=>e = .returned (.string (Ab l))∧Below w.heap.size w w':=by
 go_enter Tryz.func70,Tryz.ntmps70
 go_wp2_with (go_at_call 115; refine (copyStr_in _ l hl).mono ?_; rintro e w' ⟨rfl,hb⟩)
 go_ret
 exact ⟨rfl,hb⟩
theorem Gz (l : List UInt8) (i j : Nat) : (Ab l).extract i j=Ab ((l.take j).drop i):=by
 apply ByteArray.ext
 simp [Ab,List.drop_take]
theorem toL (l : List UInt8) : (Ab l).toList=l:=by rw [ByteArray.toList_eq]; exact B0 l
theorem prefix_take (p l : Bs) : p.isPrefixOf l=(decide (p.length≤l.length) && (l.take p.length == p)):=by
 rw [Bool.eq_iff_iff,List.isPrefixOf_iff_prefix]
 simp
 constructor
 ·rintro h
  exact ⟨h.length_le,(List.prefix_iff_eq_take.1 h).symm⟩
 ·rintro ⟨_,h⟩
  exact List.prefix_iff_eq_take.2 h.symm
set_option maxRecDepth 20000 in
theorem Lz (w : World) (l p : Bs) (_hl : l.length≤140737488355328) (_hp : p.length≤140737488355328) :
  Calls Tryz.prog 248 #[.string (Ab l), .string (Ab p)] w fun e w'=>e = .returned (.bool (p.isPrefixOf l))∧w'=w:=by
 have h1:=A1 l
 have h2:=A1 p
 have h3:=toL p
 have h4:=toL (l.take p.length)
 have h5:=Gz l 0 p.length
 rw [List.drop_zero] at h5
 rw [prefix_take]
 by_cases h : p.length≤l.length
 ·go_enter Tryz.func248,Tryz.ntmps248
  go_wp2
  go_ret
  exact ⟨Al (by simp [h]),rfl⟩
 ·go_enter Tryz.func248,Tryz.ntmps248
  go_wp2
  go_ret
  exact ⟨Al (by simp [h]),rfl⟩
set_option maxRecDepth 20000 in
theorem Pd (w : World) (l p : Bs) (hl : l.length≤140737488355328) (hp : p.length≤140737488355328) :
  Calls Tryz.prog 187 #[.string (Ab l), .string (Ab p)] w fun e w'=>e = .returned (if p.isPrefixOf l then .tuple #[.string (Ab (l.drop p.length)), .bool true] else .tuple #[.string (Ab l), .bool false])∧w'=w:=by
 have h1:=A1 l
 have h2:=A1 p
 by_cases h : p.isPrefixOf l=true
 ·have hle : p.length≤l.length:=(List.isPrefixOf_iff_prefix.1 h).length_le
  have h5:=Gz l p.length l.length
  rw [List.take_length] at h5
  rw [if_pos h]
  have hin : Calls Tryz.prog 223 #[.string (Ab l), .string (Ab p)] w fun e w'=>e = .returned (.tuple #[.string (Ab (l.drop p.length)), .bool true])∧w'=w:=by
   go_enter Tryz.func223,Tryz.ntmps223
   go_wp2_with fail
   refine (Lz w l p hl hp).mono ?_
   rintro e w1 ⟨rfl,rfl⟩
   rw [h]
   go_wp2
   go_ret2
   exact ⟨rfl,rfl⟩
  go_enter Tryz.func187,Tryz.ntmps187
  go_wp2_with fail
  refine hin.mono ?_
  rintro e w1 ⟨rfl,rfl⟩
  go_wp2
  go_ret2
  exact ⟨rfl,rfl⟩
 ·have h:=Bool.eq_false_iff.2 h
  rw [if_neg (by rw [h]; decide)]
  have hin : Calls Tryz.prog 223 #[.string (Ab l), .string (Ab p)] w fun e w'=>e = .returned (.tuple #[.string (Ab l), .bool false])∧w'=w:=by
   go_enter Tryz.func223,Tryz.ntmps223
   go_wp2_with fail
   refine (Lz w l p hl hp).mono ?_
   rintro e w1 ⟨rfl,rfl⟩
   rw [h]
   go_wp2
   go_ret2
   exact ⟨rfl,rfl⟩
  go_enter Tryz.func187,Tryz.ntmps187
  go_wp2_with fail
  refine hin.mono ?_
  rintro e w1 ⟨rfl,rfl⟩
  go_wp2
  go_ret2
  exact ⟨rfl,rfl⟩
theorem Sl.und {N : Nat} {w w' : World} {v : Value} {l : Bs} (h : Sl w v l) (hN : ∀ b off n c,v = .slice (some ⟨b,off,none⟩) n c→N≤b) (hu : Und N w.heap.size w w') : Sl w' v l:=by
 obtain ⟨ao,cap,hv,h1,h2,h3,h4⟩:=h
 refine ⟨ao,cap,hv,h1,h2,h3,fun hl=>?_⟩
 obtain ⟨b,off,ha,hlt,hc⟩:=h4 hl
 exact ⟨b,off,ha,Nat.lt_of_lt_of_le hlt hu.1,fun j hj=>(World.cell?_of_block (w:=w) (hu.2 b (hN b off _ _ (by rw [hv,ha])) hlt)).trans (hc j hj)⟩
def Dy (p b : Bs) : Bs × Pos:=if p.isPrefixOf b then (b.drop p.length,some 0) else ([],none)
set_option maxRecDepth 20000 in
theorem Lq (w : World) (b p : Bs) (hb : b.length≤140737488355328) (hp : p.length≤140737488355328) :
  Calls Tryz.prog 152 #[.string (Ab b), .string (Ab p)] w fun e w'=>∃ g,e = .returned (.pointer (some ⟨g,0,none⟩))∧Rd w.heap.size w' g (Dy p b).1 (Dy p b).2∧w.heap.size≤g∧Below w.heap.size w w':=by
 have hcp:=Pd w b p hb hp
 unfold Dy
 by_cases h : p.isPrefixOf b=true
 ·rw [if_pos h] at hcp ⊢
  have hd : (b.drop p.length).length≤b.length:=by rw [List.length_drop]; omega
  generalize b.drop p.length=r at *
  have hrs:=A1 r
  go_enter Tryz.func152,Tryz.ntmps152
  go_wp2_with fail
  refine hcp.mono ?_
  rintro e w1 ⟨rfl,rfl⟩
  go_wp2_with (refine G5 _ rfl (.tmp 17) rfl (Ab r) (by rw [A1]; unfold maxLen; omega) rfl ?_; intro v2 w2 hsl2 hb2 hbk2; rw [B0] at hsl2; have HS:=Ac hsl2; have HBK:=Ac hbk2; clear hbk2; have HB:=Ac hb2; obtain ⟨ao,cap,rfl,-⟩:=hsl2; clear hb2)
  go_ret
  refine ⟨_,rfl,⟨_,heap_last w2 _ _ rfl,fun w' hu=>HS.out.und HBK.out ⟨Nat.le_trans (by simp) hu.1,fun k hN hk=>(hu.2 k hN hk).trans (heap_past w2 _ k hk)⟩,fun a ha=>by injection ha with ha; omega⟩,HB.out.size,HB.out.alloc HB.out.size _⟩
 ·have h:=Bool.eq_false_iff.2 h
  rw [if_neg (by rw [h]; decide)] at hcp ⊢
  go_enter Tryz.func152,Tryz.ntmps152
  go_wp2_with fail
  refine hcp.mono ?_
  rintro e w1 ⟨rfl,rfl⟩
  go_wp2
  go_ret
  exact ⟨_,rfl,⟨_,heap_last w1 _ _ rfl,fun w' _=>Sl.nil w',fun a ha=>by cases ha⟩,Nat.le_refl _,(Below.refl _ _).alloc (Nat.le_refl _) _⟩
end Go.Proofs.YtckejblkppllaaaGreatDoor
