/-
  Names: all names of a disk, rising. Conditions: the disk lies there; its names are of a text's length.
-/
import Derived.Test.YtblniomnhpedjaaGreatDoorP14Asks
import Derived.Test.YtblniomnhpedjaaGreatDoorP24Iter
namespace Go.Proofs.YtblniomnhpedjaaGreatDoor
open Go.RowKit Go.Maps
open Go.WideElems (rd rg rg_of)
variable {B : Nat} {w : World} {F : Nat→Prop} {d : Nat} {S : Dk} {G : Gh}
def tc (xs : List Nm) : List Value:=xs.map fun x=>.string (Ae x)
def I4 (_ : Value) : Option (DataW Unit × List MemPlace):=some (.nil,[])
theorem names_map {b : Nat} {l : Dir} {fb : Nat→Nat} (h : Ak w b (dv fb l)) (hn : ∀ p∈l,p.1.length≤4611686018427387904) (hl : l.length≤4611686018427387904) :
  ∃ (nn : Nat) (D0 : DataW Unit),w.ownsMap Tryz.prog 9 I4 b nn D0∧Maps.size D0=l.length∧(strKeys D0).Perm (l.map (·.1)):=by
 obtain ⟨es,ck,h1,h2,h3⟩:=h
 have hkey : ∀ x∈es.toList,∃ p∈l,x.key = .string (Ae p.1):=fun x hx=>by
  have : (x.key,x.val)∈dv fb l:=h3.mem_iff.1 (List.mem_map.2 ⟨x,hx,rfl⟩)
  obtain ⟨p,hp,e⟩:=List.mem_map.1 this
  exact ⟨p,hp,(congrArg Prod.fst e).symm⟩
 have hlen : es.toList.length=l.length:=by
  have:=h3.length_eq
  simpa [dv] using this
 have hrd : ∀ x∈es.toList,∀ p : Nm × Nat,p∈l→x.key = .string (Ae p.1)→rd Tryz.prog 9 I4 x=some (.string p.1, .nil):=fun x _ p hp e=>by
  unfold rd
  rw [e,WideMaps.keyOf_string_mk Tryz.underlying9 (s:=Ae p.1) (by rw [B1]; have:=hn p hp; unfold maxLen; omega)]
  rw [Dg]
  rfl
 refine ⟨es.size,_,⟨es,ck,h1,⟨?_,h2,fun x hx=>?_⟩,Nat.le_refl _,rfl⟩,?_,?_⟩
 ·have : es.size=l.length:=by simpa using hlen
  unfold maxLen
  omega
 ·obtain ⟨p,hp,e⟩:=hkey x hx
  exact ⟨_,hrd x hx p hp e⟩
 ·show (List.foldr DataW.insert [] _).length=_
  rw [length_sorted,List.length_map,hlen]
 ·show (List.map _ (List.foldr DataW.insert [] _)).Perm _
  refine ((WideShapes.sorted_perm _).map _).trans ?_
  rw [List.map_map]
  have e1 : es.toList.map ((fun p : Go.Lit × DataW Unit=>strOf p.1) ∘ rg Tryz.prog 9 I4)=es.toList.map fun x=>(match x.key with | .string s=>s.data.toList | _=>[]):=by
   refine List.map_congr_left fun x hx=>?_
   obtain ⟨p,hp,e⟩:=hkey x hx
   simp only [Function.comp,rg_of (hrd x hx p hp e),e,strOf,Dg]
  rw [e1]
  have h4:=h3.map fun q : Value × Value=>(match q.1 with | .string s=>s.data.toList | _=>[])
  rw [List.map_map] at h4
  refine h4.trans ?_
  unfold dv
  rw [List.map_map]
  have e2 : l.map ((fun q : Value × Value=>(match q.1 with | .string s=>s.data.toList | _=>[])) ∘ fun p=>(Value.string (Ae p.1),Value.pointer (some ⟨fb p.2,0,none⟩)))=l.map (·.1):=by
   refine List.map_congr_left fun p _=>?_
   simp only [Function.comp,Dg]
  exact e2 ▸ List.Perm.refl _
theorem sorted_one {l : Dir} (hs : Bx l) {ss : List Nm} (hp : ss.Perm (l.map (·.1))) : ss.mergeSort (fun x y=>decide (x≤y))=l.map (·.1):=by
 refine List.Perm.eq_of_pairwise (le:=fun a b : Nm=>a≤b) (fun a b _ _ h1 h2=>List.le_antisymm h1 h2) ?_ ?_ ((List.mergeSort_perm _ _).trans hp)
 ·have:=List.pairwise_mergeSort (le:=fun x y : Nm=>decide (x≤y)) (fun a b c h1 h2=>by simp at h1 h2 ⊢; exact List.le_trans h1 h2) (fun a b=>by simp; exact List.le_total a b) ss
  exact this.imp fun h=>by simpa using h
 ·rw [List.pairwise_map]
  have h' : l.Pairwise fun p q=>p.1<q.1:=hs
  exact h'.imp fun h=>List.le_of_lt h
set_option maxRecDepth 20000 in
theorem names_rep (h : Rep w F d S G) (hn : ∀ p∈S.dir,p.1.length≤4611686018427387904) (hl : S.dir.length≤1099511627776) :
  Calls Tryz.prog 26 #[.pointer (some ⟨d,0,none⟩)] w fun e w'=>∃ v,e = .returned v∧w'.ownsRow w.heap.size 9 1 v S.dir.length (tc (S.dir.map (·.1)))∧Chg (fun _=>False) w w':=by
 have hd:=h.disk
 unfold B9 at hd
 have x2:=Ad hd 2
 have hk:=fun (mb : Option Nat) (W : World)=>callsIn_wide.1 (Tryz.maps_Keys_47 mb W)
 have hfin : ∀ (o : Option Nat) (v : Value) (ss : List Nm) (w' : World),ss.Perm (S.dir.map (·.1))→w'.ownsRow (w.alloc (.cells #[.map o] 85)).heap.size 9 1 v ss.length ((ss.mergeSort (fun x y=>decide (x≤y))).map encStr) →
   Below (w.alloc (.cells #[.map o] 85)).heap.size (w.alloc (.cells #[.map o] 85)) w'→w'.ownsRow w.heap.size 9 1 v S.dir.length (tc (S.dir.map (·.1)))∧Chg (fun _=>False) w w':=fun o v ss w' hp hr hb=>by
  rw [sorted_one h.ok.sortD hp,hp.length_eq,List.length_map] at hr
  refine ⟨G3 hr (by simp),((Chg.refl (fun _=>False) w).alloc _).trans (Chg.of_below hb) (fun i hi hle=>?_)⟩
  simp at hle
  omega
 have HF:=Ab hfin
 clear hfin
 have hnow:=h.now
 cases hG : G.now with
 | none=>
  rw [hG] at x2 hnow
  have he : S.dir = []:=by
   have : dv G.fb S.dir = []:=hnow
   simpa [dv] using this
  have hs:=callsIn_wide.1 (Tryz.slices_Sorted_keys_nil_46_47 w)
  clear hd h hnow
  go_enter Tryz.func26,Tryz.ntmps26
  go_wp2_with fail
  refine (hk none w).mono ?_
  rintro e w1 ⟨rfl,rfl⟩
  go_wp2_with fail
  refine hs.mono ?_
  rintro e w2 ⟨v,ss,rfl,rfl,hrow,-,hb⟩
  go_wp2
  go_ret
  exact ⟨v,rfl,HF.out none v [] w2 (by rw [he]; exact List.Perm.refl _) hrow hb⟩
 | some b=>
  rw [hG] at x2 hnow
  obtain ⟨nn,D0,hown,hsz,hperm⟩:=names_map hnow.2 hn (by omega)
  have hs:=callsIn_wide.1 (Tryz.slices_Sorted_keys_46_47 b nn D0 I4 w hown (by rw [hsz]; unfold maxLen; omega) (by rw [hsz]; omega))
  clear hd h hnow hown
  go_enter Tryz.func26,Tryz.ntmps26
  go_wp2_with fail
  refine (hk (some b) w).mono ?_
  rintro e w1 ⟨rfl,rfl⟩
  go_wp2_with fail
  refine hs.mono ?_
  rintro e w2 ⟨v,ss,rfl,hp,hrow,-,hb⟩
  go_wp2
  go_ret
  exact ⟨v,rfl,HF.out (some b) v ss w2 (hp.trans hperm) hrow hb⟩
end Go.Proofs.YtblniomnhpedjaaGreatDoor
