/-
  Texts joined: Iter, YKeys, YLayAll, YEdit, YShownP.
-/
import Derived.Shelf.SlIter.Nil
import Derived.Shelf.SortM.Plain
import Derived.Shelf.SortM.SortNone
import Derived.Test.YtckejblkppllaaaGreatDoorProg
import Derived.Test.YtckejblkppllaaaGreatDoorT41ODoor
import Derived.Test.YtckejblkppllaaaGreatDoorT45YDo2
import Derived.Test.YtckejblkppllaaaGreatDoorT33QOEntry3
import Derived.Test.YtckejblkppllaaaGreatDoorT35APlain
import Derived.Test.YtckejblkppllaaaGreatDoorT38PRange
namespace Go.Proofs
open Go.RowKit Go.Maps Go.Sort Go.Shelf
def Tryz.keys76_ren : Go.Shelf.Ren:=⟨fun | 7=>76 | 10=>120 | n=>n,fun | 23=>73 | 26=>9 | 3=>68 | 28=>162 | 0=>0 | 27=>161 | 33=>123 | 4=>4 | n=>n,fun | n=>n⟩
theorem Tryz.keys76 : Go.Proofs.SlLaysZ.n7 Tryz.prog Tryz.keys76_ren:={
 mixed:=by kernel_rfl
 f7:=⟨Tryz.f76.name,by decide,Tryz.func76.trans (congrArg some (by kernel_rfl))⟩
 f10:=⟨Tryz.f120.name,by decide,Tryz.func120.trans (congrArg some (by kernel_rfl))⟩
 t0:=Tryz.underlying0
 a0:=Tryz.isAgg0
 z0:=Tryz.sizeOf0
 v0:=Tryz.zeroValue0
 t4:=Tryz.underlying4
 a4:=Tryz.isAgg4
 z4:=Tryz.sizeOf4
 v4:=Tryz.zeroValue4
 t23:=Tryz.underlying73
 a23:=Tryz.isAgg73
 z23:=Tryz.sizeOf73
 v23:=Tryz.zeroValue73
 t26:=Tryz.underlying9
 a26:=Tryz.isAgg9
 z26:=Tryz.sizeOf9
 v26:=Tryz.zeroValue9
 t27:=Tryz.underlying161
 a27:=Tryz.isAgg161
 z27:=Tryz.sizeOf161
 v27:=Tryz.zeroValue161
 t28:=Tryz.underlying162
 a28:=Tryz.isAgg162
 z28:=Tryz.sizeOf162
 v28:=Tryz.zeroValue162
 t33:=Tryz.underlying123
 a33:=Tryz.isAgg123
 z33:=Tryz.sizeOf123
 v33:=Tryz.zeroValue123 }
def Tryz.sorted75_ren : Go.Shelf.Ren:=⟨fun | 6=>75 | 8=>99 | 9=>119 | 11=>141 | 13=>163 | 12=>162 | 23=>207 | 24=>208 | 14=>198 | 15=>199 | 16=>200 | 17=>201 | 18=>202 | 19=>203 | 20=>204 | 21=>205 | 22=>206 | 25=>228 | 26=>229 | 27=>230 | 28=>231 | 29=>232 | 30=>233 | 31=>259 | n=>n,fun | 26=>9 | 28=>162 | 24=>76 | 0=>0 | 3=>3 | 37=>266 | 48=>302 | 50=>252 | 4=>4 | 40=>310 | 39=>309 | 45=>169 | 5=>5 | 9=>9 | 51=>336 | 55=>340 | 57=>365 | 58=>366 | 33=>123 | n=>n,fun | n=>n⟩
theorem Tryz.sorted75 : Go.Proofs.SlLaysZ.n6 Tryz.prog Tryz.sorted75_ren:={
 mixed:=by kernel_rfl
 f6:=⟨Tryz.f75.name,by decide,Tryz.func75.trans (congrArg some (by kernel_rfl))⟩
 f8:=⟨Tryz.f99.name,by decide,Tryz.func99.trans (congrArg some (by kernel_rfl))⟩
 f11:=⟨Tryz.f141.name,by decide,Tryz.func141.trans (congrArg some (by kernel_rfl))⟩
 t0:=Tryz.underlying0
 a0:=Tryz.isAgg0
 z0:=Tryz.sizeOf0
 v0:=Tryz.zeroValue0
 t24:=Tryz.underlying76
 a24:=Tryz.isAgg76
 z24:=Tryz.sizeOf76
 v24:=Tryz.zeroValue76
 t26:=Tryz.underlying9
 a26:=Tryz.isAgg9
 z26:=Tryz.sizeOf9
 v26:=Tryz.zeroValue9
 t28:=Tryz.underlying162
 a28:=Tryz.isAgg162
 z28:=Tryz.sizeOf162
 v28:=Tryz.zeroValue162
 i26:=by kernel_rfl }
def Tryz.sort119_ren : Go.Shelf.Ren:=⟨fun | 6=>119 | 8=>163 | 9=>162 | 19=>207 | 20=>208 | 21=>198 | 22=>199 | 23=>200 | 24=>201 | 25=>202 | 26=>203 | 27=>204 | 28=>205 | 29=>206 | 36=>228 | 31=>229 | 32=>230 | 37=>231 | 38=>232 | 39=>233 | 41=>259 | n=>n,fun | 27=>76 | 29=>9 | 3=>3 | 32=>266 | 26=>76 | 0=>0 | 44=>302 | 46=>252 | 4=>4 | 36=>310 | 35=>309 | 41=>169 | 5=>5 | 9=>9 | 53=>336 | 57=>340 | 63=>365 | 64=>366 | n=>n,fun | n=>n⟩
theorem Tryz.sort119 : Go.Proofs.SlLaysM.n6 Tryz.prog Tryz.sort119_ren:={
 mixed:=by kernel_rfl
 f6:=⟨Tryz.f119.name,by decide,Tryz.func119.trans (congrArg some (by kernel_rfl))⟩
 f8:=Tryz.func163.trans (congrArg some (by kernel_rfl))
 f9:=⟨Tryz.f162.name,by decide,Tryz.func162.trans (congrArg some (by kernel_rfl))⟩
 f19:=Tryz.func207.trans (congrArg some (by kernel_rfl))
 f20:=Tryz.func208.trans (congrArg some (by kernel_rfl))
 f21:=⟨Tryz.f198.name,by decide,Tryz.func198.trans (congrArg some (by kernel_rfl))⟩
 f22:=⟨Tryz.f199.name,by decide,Tryz.func199.trans (congrArg some (by kernel_rfl))⟩
 f23:=⟨Tryz.f200.name,by decide,Tryz.func200.trans (congrArg some (by kernel_rfl))⟩
 f24:=⟨Tryz.f201.name,by decide,Tryz.func201.trans (congrArg some (by kernel_rfl))⟩
 f25:=⟨Tryz.f202.name,by decide,Tryz.func202.trans (congrArg some (by kernel_rfl))⟩
 f26:=⟨Tryz.f203.name,by decide,Tryz.func203.trans (congrArg some (by kernel_rfl))⟩
 f27:=⟨Tryz.f204.name,by decide,Tryz.func204.trans (congrArg some (by kernel_rfl))⟩
 f28:=⟨Tryz.f205.name,by decide,Tryz.func205.trans (congrArg some (by kernel_rfl))⟩
 f29:=⟨Tryz.f206.name,by decide,Tryz.func206.trans (congrArg some (by kernel_rfl))⟩
 f31:=Tryz.func229.trans (congrArg some (by kernel_rfl))
 f32:=Tryz.func230.trans (congrArg some (by kernel_rfl))
 f36:=⟨Tryz.f228.name,by decide,Tryz.func228.trans (congrArg some (by kernel_rfl))⟩
 f37:=⟨Tryz.f231.name,by decide,Tryz.func231.trans (congrArg some (by kernel_rfl))⟩
 f38:=⟨Tryz.f232.name,by decide,Tryz.func232.trans (congrArg some (by kernel_rfl))⟩
 f39:=⟨Tryz.f233.name,by decide,Tryz.func233.trans (congrArg some (by kernel_rfl))⟩
 f41:=⟨Tryz.f259.name,by decide,Tryz.func259.trans (congrArg some (by kernel_rfl))⟩
 t0:=Tryz.underlying0
 a0:=Tryz.isAgg0
 z0:=Tryz.sizeOf0
 v0:=Tryz.zeroValue0
 t3:=Tryz.underlying3
 a3:=Tryz.isAgg3
 z3:=Tryz.sizeOf3
 v3:=Tryz.zeroValue3
 t4:=Tryz.underlying4
 a4:=Tryz.isAgg4
 z4:=Tryz.sizeOf4
 v4:=Tryz.zeroValue4
 t5:=Tryz.underlying5
 a5:=Tryz.isAgg5
 z5:=Tryz.sizeOf5
 v5:=Tryz.zeroValue5
 t9:=Tryz.underlying9
 a9:=Tryz.isAgg9
 z9:=Tryz.sizeOf9
 v9:=Tryz.zeroValue9
 t26:=Tryz.underlying76
 a26:=Tryz.isAgg76
 z26:=Tryz.sizeOf76
 v26:=Tryz.zeroValue76
 t27:=Tryz.underlying76
 a27:=Tryz.isAgg76
 z27:=Tryz.sizeOf76
 v27:=Tryz.zeroValue76
 t29:=Tryz.underlying9
 a29:=Tryz.isAgg9
 z29:=Tryz.sizeOf9
 v29:=Tryz.zeroValue9
 t32:=Tryz.underlying266
 a32:=Tryz.isAgg266
 z32:=Tryz.sizeOf266
 v32:=Tryz.zeroValue266
 t35:=Tryz.underlying309
 a35:=Tryz.isAgg309
 z35:=Tryz.sizeOf309
 v35:=Tryz.zeroValue309
 t36:=Tryz.underlying310
 a36:=Tryz.isAgg310
 z36:=Tryz.sizeOf310
 v36:=Tryz.zeroValue310
 t41:=Tryz.underlying169
 a41:=Tryz.isAgg169
 z41:=Tryz.sizeOf169
 v41:=Tryz.zeroValue169
 t44:=Tryz.underlying302
 a44:=Tryz.isAgg302
 z44:=Tryz.sizeOf302
 v44:=Tryz.zeroValue302
 t46:=Tryz.underlying252
 a46:=Tryz.isAgg252
 z46:=Tryz.sizeOf252
 v46:=Tryz.zeroValue252
 t53:=Tryz.underlying336
 a53:=Tryz.isAgg336
 z53:=Tryz.sizeOf336
 v53:=Tryz.zeroValue336
 t57:=Tryz.underlying340
 a57:=Tryz.isAgg340
 z57:=Tryz.sizeOf340
 v57:=Tryz.zeroValue340
 t63:=Tryz.underlying365
 a63:=Tryz.isAgg365
 z63:=Tryz.sizeOf365
 v63:=Tryz.zeroValue365
 t64:=Tryz.underlying366
 a64:=Tryz.isAgg366
 z64:=Tryz.sizeOf366
 v64:=Tryz.zeroValue366 }
theorem Tryz.sorts75 (m : Nat) : AnyZ.SortsIn Tryz.prog Tryz.sorted75_ren Fence.wide m:=
 ⟨fun blk off cap ss W hH hblk hsz=>callsIn_wide.2 (AnyM.slices_Sort_string Tryz.sort119 blk off cap ss W hH hblk hsz),
  fun p cap W=>callsIn_wide.2 (AnyM.slices_Sort_string_none Tryz.sort119 p cap W)⟩
theorem Tryz.maps_Keys_76 (mb : Option Nat) (W : World) : CallsIn Fence.wide 5 Tryz.prog 76 #[.map mb] W fun e w'=>e = .returned (.func (.func 120) #[] #[.pointer (some ⟨W.heap.size,0,none⟩)])∧w'=W.alloc (.cells #[.map mb] 73):=
 AnyZ.keys_in Tryz.keys76 Fence.wide 5 trivial rfl mb W
set_option maxHeartbeats 1000000 in
theorem Tryz.slices_Sorted_keys_75_76 {H : Type} (b nn : Nat) (D0 : DataW H) (R : Value→Option (DataW H × List MemPlace)) (w : World) (hown : w.ownsMap Tryz.prog 9 R b nn D0) (hmax : Maps.size D0≤maxLen) (hbytes : Maps.size D0 * 16≤140737488355328) :
  CallsIn Fence.wide 5 Tryz.prog 75 #[.func (.func 120) #[] #[.pointer (some ⟨w.heap.size,0,none⟩)]] (w.alloc (.cells #[.map (some b)] 73)) fun e w'=>∃ (v : Value) (ss : List (List UInt8)),e = .returned v∧ss.Perm (strKeys D0) ∧
   w'.ownsRow (w.alloc (.cells #[.map (some b)] 73)).heap.size 9 1 v ss.length ((ss.mergeSort (fun x y=>decide (x≤y))).map encStr)∧(v = .slice none 0 0↔ss = [])∧Below (w.alloc (.cells #[.map (some b)] 73)).heap.size (w.alloc (.cells #[.map (some b)] 73)) w':=by
 have hbl:=hown.lt
 have hseq : SeqGives Fence.wide 2 Tryz.prog 120 #[.pointer (some ⟨w.heap.size,0,none⟩)] encStr (fun ss=>ss.Perm (strKeys D0)) (Maps.size D0) (w.alloc (.cells #[.map (some b)] 73)):=
  AnyZ.keys_gives (ρ:=Tryz.keys76_ren) { Tryz.keys76 with } Fence.wide _ trivial rfl (by omega) w.heap.size b nn D0 _ (by simp) (by simp) (by
   obtain ⟨es,clock,hb,Ft,hs,hD⟩:=hown
   exact ⟨es,clock,(Below.heap_alloc _ _ b hbl).trans hb,Ft,hs,hD⟩)
 exact AnyZ.sorted_in Tryz.sorted75 Fence.wide 5 trivial trivial trivial trivial rfl (by omega) (Tryz.sorts75 _) (enters_of Tryz.func119 (by kernel_rfl) rfl) 120 #[.pointer (some ⟨w.heap.size,0,none⟩)] trivial (enters_of Tryz.func120 (by kernel_rfl) rfl) _ _ hmax hbytes _ hseq
set_option maxHeartbeats 1000000 in
theorem Tryz.slices_Sorted_keys_nil_75_76 (w : World) :
  CallsIn Fence.wide 5 Tryz.prog 75 #[.func (.func 120) #[] #[.pointer (some ⟨w.heap.size,0,none⟩)]] (w.alloc (.cells #[.map none] 73)) fun e w'=>∃ (v : Value) (ss : List (List UInt8)),e = .returned v∧ss = [] ∧
   w'.ownsRow (w.alloc (.cells #[.map none] 73)).heap.size 9 1 v ss.length ((ss.mergeSort (fun x y=>decide (x≤y))).map encStr)∧(v = .slice none 0 0↔ss = [])∧Below (w.alloc (.cells #[.map none] 73)).heap.size (w.alloc (.cells #[.map none] 73)) w':=by
 have hseq : SeqGives Fence.wide 2 Tryz.prog 120 #[.pointer (some ⟨w.heap.size,0,none⟩)] encStr (fun ss : List (List UInt8)=>ss = []) 0 (w.alloc (.cells #[.map none] 73)):=
  AnyZ.keys_gives_nil (ρ:=Tryz.keys76_ren) { Tryz.keys76 with } Fence.wide _ trivial rfl w.heap.size _ (by simp) (by simp)
 exact AnyZ.sorted_in Tryz.sorted75 Fence.wide 5 trivial trivial trivial trivial rfl (by omega) (Tryz.sorts75 _) (enters_of Tryz.func119 (by kernel_rfl) rfl) 120 #[.pointer (some ⟨w.heap.size,0,none⟩)] trivial (enters_of Tryz.func120 (by kernel_rfl) rfl) _ 0 (Nat.zero_le _) (by omega) _ hseq
end Go.Proofs
namespace Go.Proofs.YtckejblkppllaaaGreatDoor
open Go.RowKit Go.Maps
def Ip (_ : Value) : Option (DataW Unit × List MemPlace):=some (.nil,[])
theorem keys_map {w : World} {b : Nat} {l : List Bs} {K : List Bs→Nat} {p : List Bs} (h : Mp.MapW w b (l.map (C9 K p))) (hn : ∀ n∈l,n.length≤4611686018427387904) (hl : l.length≤4611686018427387904) :
  ∃ (nn : Nat) (D0 : DataW Unit),w.ownsMap Tryz.prog 9 Ip b nn D0∧Maps.size D0=l.length∧(strKeys D0).Perm l:=by
 obtain ⟨es,ck,h1,h2,h3⟩:=h
 have hkey : ∀ x∈es.toList,∃ n∈l,x.key = .string (Ab n):=fun x hx=>by
  have : (x.key,x.val)∈l.map (C9 K p):=h3.mem_iff.1 (List.mem_map.2 ⟨x,hx,rfl⟩)
  obtain ⟨n,hn',e⟩:=List.mem_map.1 this
  exact ⟨n,hn',(congrArg Prod.fst e).symm⟩
 have hlen : es.toList.length=l.length:=by
  have:=h3.length_eq
  simpa using this
 have hrd : ∀ x∈es.toList,∀ n : Bs,n∈l→x.key = .string (Ab n)→WideElems.rd Tryz.prog 9 Ip x=some (.string n, .nil):=fun x _ n hp e=>by
  unfold WideElems.rd
  rw [e,WideMaps.keyOf_string_mk Tryz.underlying9 (s:=Ab n) (by rw [A1]; have:=hn n hp; unfold maxLen; omega)]
  rw [B0]
  rfl
 refine ⟨es.size,_,⟨es,ck,h1,⟨?_,h2,fun x hx=>?_⟩,Nat.le_refl _,rfl⟩,?_,?_⟩
 ·have : es.size=l.length:=by simpa using hlen
  unfold maxLen
  omega
 ·obtain ⟨n,hn',e⟩:=hkey x hx
  exact ⟨_,hrd x hx n hn' e⟩
 ·show (List.foldr DataW.insert [] _).length=_
  rw [length_sorted,List.length_map,hlen]
 ·show (List.map _ (List.foldr DataW.insert [] _)).Perm _
  refine ((WideShapes.sorted_perm _).map _).trans ?_
  rw [List.map_map]
  have e1 : es.toList.map ((fun p : Go.Lit × DataW Unit=>strOf p.1) ∘ WideElems.rg Tryz.prog 9 Ip)=es.toList.map fun x=>(match x.key with | .string s=>s.data.toList | _=>[]):=by
   refine List.map_congr_left fun x hx=>?_
   obtain ⟨n,hn',e⟩:=hkey x hx
   simp only [Function.comp,WideElems.rg_of (hrd x hx n hn' e),e,strOf,B0]
  rw [e1]
  have h4:=h3.map fun q : Value × Value=>(match q.1 with | .string s=>s.data.toList | _=>[])
  rw [List.map_map] at h4
  refine h4.trans ?_
  rw [List.map_map]
  have e2 : l.map ((fun q : Value × Value=>(match q.1 with | .string s=>s.data.toList | _=>[])) ∘ C9 K p)=l:=by
   conv=>rhs; rw [← List.map_id l]
   refine List.map_congr_left fun n _=>?_
   simp only [Function.comp,C9,B0,id]
  exact List.Perm.of_eq e2
theorem ltB_lt : ∀ (a b : Bs),ltB a b=true→a<b
 | _,[],h=>by rw [Gh] at h; cases h
 | [],b :: m,_=>List.nil_lt_cons b m
 | a :: l,b :: m,h=>by
  rw [Gu] at h
  simp only [Bool.or_eq_true,decide_eq_true_eq,Bool.and_eq_true,beq_iff_eq] at h
  rw [List.cons_lt_cons_iff]
  rcases h with h | ⟨h1,h2⟩
  ·exact .inl h
  ·exact .inr ⟨h1,ltB_lt l m h2⟩
theorem sorted_names {l : List Bs} (hs : Fa l) {ss : List Bs} (hp : ss.Perm l) : ss.mergeSort (fun x y=>decide (x≤y))=l:=by
 refine List.Perm.eq_of_pairwise (le:=fun a b : Bs=>a≤b) (fun a b _ _ h1 h2=>List.le_antisymm h1 h2) ?_ ?_ ((List.mergeSort_perm _ _).trans hp)
 ·have:=List.pairwise_mergeSort (le:=fun x y : Bs=>decide (x≤y)) (fun a b c h1 h2=>by simp at h1 h2 ⊢; exact List.le_trans h1 h2) (fun a b=>by simp; exact List.le_total a b) ss
  exact this.imp fun h=>by simpa using h
 ·exact hs.imp fun h=>List.le_of_lt (ltB_lt _ _ h)
theorem keysF_any (w : World) (b : Nat) : Calls Tryz.prog 76 #[.map (some b)] w fun e w'=>e = .returned (.func (.func 120) #[] #[.pointer (some ⟨w.heap.size,0,none⟩)])∧w'=w.alloc (.cells #[.map (some b)] 73):=
 callsIn_wide.1 (Tryz.maps_Keys_76 (some b) w)
theorem O8 (w : World) (b : Nat) (l : List Bs) (K : List Bs→Nat) (p : List Bs) (hm : Mp.MapW w b (l.map (C9 K p))) (hr : Fa l) (hn : ∀ n∈l,n.length≤4611686018427387904) (hl : l.length≤1099511627776) :
  Calls Tryz.prog 75 #[.func (.func 120) #[] #[.pointer (some ⟨w.heap.size,0,none⟩)]] (w.alloc (.cells #[.map (some b)] 73)) fun e w'=>∃ v,e = .returned v∧C6 w' 9 v (l.map fun n=>.string (Ab n))∧Below w.heap.size w w':=by
 obtain ⟨nn,D0,hown,hsz,hperm⟩:=keys_map hm hn (by omega)
 refine (callsIn_wide.1 (Tryz.slices_Sorted_keys_75_76 b nn D0 Ip w hown (by rw [hsz]; unfold maxLen; omega) (by rw [hsz]; omega))).mono ?_
 rintro e w' ⟨v,ss,rfl,hp,hrow,-,hb⟩
 rw [sorted_names hr (hp.trans hperm),(hp.trans hperm).length_eq] at hrow
 refine ⟨v,rfl,C6.of_own (by rw [List.length_map]; exact hrow),?_⟩
 ·exact ((Below.refl _ w).alloc (Nat.le_refl _) _).trans (hb.mono (by simp))
end Go.Proofs.YtckejblkppllaaaGreatDoor
namespace Go.Proofs.YtckejblkppllaaaGreatDoor
open Go.RowKit
abbrev lats : List TypeId:=[75,93,38]
theorem at_E {σ : Tre} {E : List Bs→Val} : ∀ q,At ⟨σ.D,E⟩ q↔At σ q
 | []=>Iff.rfl
 | n :: q=>by unfold At; rw [at_E q]; rfl
theorem entryV_ent (n : Bs) (v : Val) : ∃ er : Int,entryV (Ck n v) v = .tuple #[.string (Ab (entB n v)), .int .i64 er]:=by
 unfold entryV entB
 cases Ck n v with
 | true=>exact ⟨0,rfl⟩
 | false=>exact ⟨80,rfl⟩
theorem LyO.below {S : Nat} {w w' : World} {g : Nat} {os : List Ag} {vo : Value} {mo : Option Nat} (h : LyO S w g os vo mo) (hb : Below w.heap.size w w') : LyO S w' g os vo mo:=
 ⟨h.base,(hb.block _ (Ad h.cell)).trans h.cell,Er h.row (fun q hq=>hb.block q (h.row.lt q hq).2),h.none,fun mb e=>⟨(h.map mb e).1.same (hb.block _ (h.map mb e).1.lt),(h.map mb e).2⟩⟩
theorem LyO.set {S : Nat} {w : World} {g k j : Nat} {os : List Ag} {vo : Value} {mo : Option Nat} {cs : Array Value} {fr : Nat × Nat} (h : LyO S w g os vo mo) (hh : w.heap[k]? = some (.cells cs 75 fr)) (u : Value) : LyO S (w.setCell ⟨k,j,Option.none⟩ u) g os vo mo:=
 ⟨h.base,(Bc (Fk h.cell hh (by decide))).trans h.cell,Ap h.row hh (by decide) _,h.none,fun mb e=>⟨map_set (h.map mb e).1 hh _,(h.map mb e).2⟩⟩
theorem Mv.base {B B' : Nat} {ts : List TypeId} {r : Option Nat} {w w' : World} (h : Mv B ts r w w') (hB : B'≤B) : Mv B' ts r w w':=⟨h.b.mono hB,h.k⟩
theorem Mv.grownNew {B : Nat} {ts : List TypeId} {r : Option Nat} {w w1 w2 : World} (h : Mv B ts r w w1) {v : Value} {n k : Nat} {xs : List Value} {e : TypeId} (hown : w1.ownsRow w.heap.size e k v n xs) (hgr : w1.grownBy w2 v.ownBlock) (hB : B≤w.heap.size) : Mv B ts r w w2:=by
 refine ⟨h.b.trans ((Below.refl _ _).grown hgr (Nat.le_trans hB h.size) (fun q hq=>Nat.le_trans hB (hown.lt q hq).1)),fun i cs t fr hi ht hr=>?_⟩
 have hi1:=h.k i cs t fr hi ht hr
 refine (hgr.block i (Ad hi1) fun hq=>?_).trans hi1
 have:=(hown.lt i hq.symm).1
 have:=Ad hi
 omega
theorem LyO.grown {S : Nat} {w w1 : World} {g : Nat} {os : List Ag} {vo : Value} {mo : Option Nat} (h : LyO S w g os vo mo) {B n k : Nat} {v : Value} {xs : List Value} {e : TypeId} (hu : w.ownsRow B e k v n xs) (hgr : w.grownBy w1 v.ownBlock) (h1 : 93≠e) (h2 : 38≠e) : LyO S w1 g os vo mo:=
 ⟨h.base,Ej hu hgr h.cell h1,G4 h.row hu hgr (F0 h.row hu h2),h.none,fun mb e'=>⟨(h.map mb e').1.same (hgr.block mb (h.map mb e').1.lt (fun hq=>by
  obtain ⟨c,fz,hk⟩:=Lib.ownsRow_kind hu mb hq.symm
  exact absurd rfl ((h.map mb e').1.ne hk))),(h.map mb e').2⟩⟩
theorem C6.grown {w w1 : World} {t : TypeId} {v u : Value} {xs ys : List Value} {B n k : Nat} {e : TypeId} (h : C6 w t v xs) (hu : w.ownsRow B e k u n ys) (hgr : w.grownBy w1 u.ownBlock) (ht : t≠e) : C6 w1 t v xs:=by
 obtain ⟨ao,cap,h1,h2,h3,h4⟩:=h
 refine ⟨ao,cap,h1,h2,h3,fun hx=>?_⟩
 obtain ⟨b,off,cs,fr,g1,g2,g3⟩:=h4 hx
 exact ⟨b,off,cs,fr,g1,Ej hu hgr g2 ht,g3⟩
theorem C6.below {w w' : World} {t : TypeId} {v : Value} {xs : List Value} (h : C6 w t v xs) (hb : Below w.heap.size w w') : C6 w' t v xs:=
 h.mv (Mv.of (ts:=[]) (r:=none) hb (Nat.le_refl _)) (by simp)
def LayP (S B : Nat) (w : World) (g : Nat) (K M : List Bs→Nat) (σ : Tre) (E : List Bs→Val) (p : List Bs) (r : LayR) (e : Ending) (w' : World) : Prop:=
 e = .returned (.int .i64 r.err)∧Mv B lats none w w'∧(r.err=0→∃ E',Rep B w' ⟨σ.D,E'⟩ K M∧E' p=r.ent∧(∀ q,¬ p <:+ q→E' q=E q)∧∃ vo mo,LyO S w' g r.objs vo mo)
structure LayOk (S B : Nat) (σ : Tre) (K M : List Bs→Nat) : Prop where
 rises : Bn σ
 names : ∀ p L,σ.D p=some L→∀ n∈L,n.length≤64
 many : ∀ p L,σ.D p=some L→L.length≤100000
 tab : 1<B
 le : B≤S
 lt : ∀ q,At σ q→K q<S∧(σ.D q≠none→M q<S)
def LayW (S B : Nat) (w : World) (g : Nat) (K M : List Bs→Nat) (σ : Tre) (E : List Bs→Val) (d : Nat) (p L : List Bs) (T : Int × (List Ag × List Ag)) (vn : Value) (i : Nat) (t5 : Value) (wr : World) : Prop:=
 ∃ (Ei : List Bs→Val) (ps os : List Ag) (vo : Value) (mo : Option Nat),T=Dj (Cj σ d) p (L.drop i) ps os∧Rep B wr ⟨σ.D,Ei⟩ K M∧(∀ n∈L.drop i,∀ q,(n :: p) <:+ q→Ei q = σ.E q)∧(∀ q,¬ p <:+ q→Ei q=E q)∧Ei p = σ.E p∧LyO S wr g os vo mo ∧
  Rw w.heap.size wr 135 2 Ak t5 ps∧ps.length=i∧os.length+100000 * sumT (cntT σ d) p (L.drop i)+100000≤4294967296∧Mv B lats none w wr∧C6 wr 9 vn (L.map fun n=>.string (Ab n))
theorem layT_none {σ : Tre} {d : Nat} {p : List Bs} {os : List Ag} (h : σ.D p=none) : Cj σ d p os=⟨0,σ.E p,os⟩:=by
 cases d with
 | zero=>rfl
 | succ d=>rw [Cj,h]
set_option maxRecDepth 40000 in
set_option maxHeartbeats 1600000 in
theorem layAll_any (S B : Nat) (σ : Tre) (K M : List Bs→Nat) (hok : LayOk S B σ K M) : ∀ (d : Nat) (p : List Bs) (w : World) (g : Nat) (E : List Bs→Val) (os : List Ag) (vo : Value) (mo : Option Nat),Rep B w ⟨σ.D,E⟩ K M→(∀ q,p <:+ q→E q = σ.E q)→At σ p→LyO S w g os vo mo→Bh w→S≤w.heap.size→os.length+100000 * cntT σ d p≤4294967296→(∀ q,p <:+ q→σ.D q≠none→q.length<p.length+d) →
  Calls Tryz.prog 40 #[.pointer (some ⟨g,0,none⟩),ptr (K p)] w fun e w'=>LayP S B w g K M σ E p (Cj σ d p os) e w':=by
 intro d
 induction d with
 | zero=>
  intro p w g E os vo mo hrep hE hp hly hT hS hcap hd
  have hD : σ.D p=none:=by
   cases h : σ.D p with
   | none=>rfl
   | some L=>have:=hd p (List.suffix_refl _) (by rw [h]; simp); omega
  have hh:=(hrep.place p ((at_E p).2 hp)).2
  unfold plC at hh
  rw [Ga (σ:=⟨σ.D,E⟩) hD] at hh
  have c5:=rc (i:=5) hh rfl
  have hnm:=fun W=>map_eql none W
  simp only [Option.isSome_none,Bool.not_false] at hnm
  have HF:=Ac (show LayP S B w g K M σ E p (Cj σ 0 p os) (.returned (.int .i64 0)) w by
   rw [layT_none hD]
   exact ⟨rfl,Mv.refl _ _ _ _,fun _=>⟨E,hrep,hE p (List.suffix_refl _),fun _ _=>rfl,vo,mo,hly⟩⟩)
  clear hrep hE hp hly hT hS hcap hd hD hh hok
  go_enter Tryz.func40,Tryz.ntmps40
  go_wp2
  go_ret
  exact HF.out
 | succ d ih=>
  intro p w g E os vo mo hrep hE hp hly hT hS hcap hd
  cases hD : σ.D p with
  | none=>
   have hh:=(hrep.place p ((at_E p).2 hp)).2
   unfold plC at hh
   rw [Ga (σ:=⟨σ.D,E⟩) hD] at hh
   have c5:=rc (i:=5) hh rfl
   have hnm:=fun W=>map_eql none W
   simp only [Option.isSome_none,Bool.not_false] at hnm
   have HF:=Ac (show LayP S B w g K M σ E p (Cj σ (d+1) p os) (.returned (.int .i64 0)) w by
    rw [layT_none hD]
    exact ⟨rfl,Mv.refl _ _ _ _,fun _=>⟨E,hrep,hE p (List.suffix_refl _),fun _ _=>rfl,vo,mo,hly⟩⟩)
   clear hrep hE hp hly hT hS hcap hd hD hh hok ih
   go_enter Tryz.func40,Tryz.ntmps40
   go_wp2
   go_ret
   exact HF.out
  | some L=>
   have hatp:=(at_E (E:=E) p).2 hp
   have hh:=(hrep.place p hatp).2
   unfold plC at hh
   rw [D5 (σ:=⟨σ.D,E⟩) hD] at hh
   have c5:=rc (i:=5) hh rfl
   have hnm:=fun W=>map_eql (some (M p)) W
   simp only [Option.isSome_some,Bool.not_true] at hnm
   have hL:=hok.rises p L hD
   have hkeys:=keysF_any w (M p)
   have hsort:=O8 w (M p) L K p (hrep.map p L hatp hD).2 hL (fun n hn=>by have:=hok.names p L hD n hn; omega) (by have:=hok.many p L hD; omega)
   have hn5:=hok.many p L hD
   rw [cntT,hD] at hcap
   simp only at hcap
   obtain ⟨R,hR⟩ : ∃ R,R=Cj σ (d+1) p os:=⟨_,rfl⟩
   rw [← hR]
   rw [Cj,hD] at hR
   simp only at hR
   obtain ⟨T,hT0⟩ : ∃ T,T=Dj (Cj σ d) p L [] os:=⟨_,rfl⟩
   rw [← hT0] at hR
   obtain ⟨n,hn⟩ : ∃ n,n=L.length:=⟨_,rfl⟩
   rw [← hn] at hn5
   have HN:=Ac (And.intro hn (And.intro hR (And.intro hT0 (And.intro hD (And.intro hp (And.intro hL (And.intro hT hS)))))))
   have H0:=Ac (And.intro hrep (And.intro hE (And.intro hly (And.intro hcap hd))))
   have HOK:=Ac hok
   have HIH:=Ac ih
   clear hrep hE hp hly hT hS hcap hd hh hok ih hR hT0 hn hL hatp
   go_enter Tryz.func40,Tryz.ntmps40
   go_wp2_with fail
   refine hkeys.mono ?_
   rintro e w1 ⟨rfl,rfl⟩
   go_wp2_with fail
   refine hsort.mono ?_
   rintro e w2 ⟨vn,rfl,hvn,hb2⟩
   have hst : LayW S B w g K M σ E d p L T vn 0 (.slice none 0 0) w2:=by
    refine ⟨E,[],os,vo,mo,HN.out.2.2.1,H0.out.1.below (Nat.le_refl _) hb2,fun n _ q hq=>H0.out.2.1 q (suf_kid hq),fun _ _=>rfl,H0.out.2.1 p (List.suffix_refl _),H0.out.2.2.1.below hb2,World.ownsRow_nil _ _ _ _,rfl,?_,Mv.of hb2 (Nat.le_trans HOK.out.le HN.out.2.2.2.2.2.2.2),hvn⟩
    have:=H0.out.2.2.2.1
    simp only [List.drop_zero]
    rw [Nat.mul_add] at this
    omega
   obtain ⟨na,nc,hvv,hnc,-,-⟩:=hvn
   rw [List.length_map,← HN.out.1] at hvv hnc
   subst hvv
   have HS:=Ac hst
   clear hkeys hsort hb2 hst
   go_wp2_with fail
   go_loopw [5,27] (fun t5 t wr=>∃ i : Nat,i≤n∧t = .int .i64 i∧LayW S B w g K M σ E d p L T (.slice na n nc) i t5 wr)
    (fun _ t _=>n - (intOf t).toNat)
   case atStart=>exact ⟨0,by omega,rfl,HS.out⟩
   case round=>
    obtain ⟨i,hi,rfl,Ei,ps,osi,voi,moi,hTi,hrep,hEi,hEo,hEp,hly,hps,hpl,hcap,hmv,hvn⟩:=hrel
    have hsz : w.heap.size≤wr.heap.size:=hmv.size
    have hBw : B≤w.heap.size:=Nat.le_trans HOK.out.le HN.out.2.2.2.2.2.2.2
    have hTr:=HN.out.2.2.2.2.2.2.1.keep hmv.b HOK.out.tab
    have hatp:=(at_E (E:=Ei) p).2 HN.out.2.2.2.2.1
    obtain ⟨pa,pc,hpv,-⟩:=Bj hps
    obtain ⟨pl,hpl2⟩ : ∃ pl,pl=ps.length:=⟨_,rfl⟩
    rw [← hpl2] at hpv hpl
    subst hpv
    by_cases hlt : i<n
    ·have hlt2 : i<L.length:=by have:=HN.out.1; omega
     have hvn':=hvn
     obtain ⟨na',nc',hv',-,-,hcells⟩:=hvn'
     obtain rfl : na=na':=by injection hv'
     obtain ⟨pb,off,cs,fr,rfl,hblk,hcs⟩:=hcells (by intro e; rw [List.map_eq_nil_iff] at e; rw [e] at hlt2; simp at hlt2)
     have hx0:=rc hblk (hcs i (by simpa using hlt2))
     simp only [List.getElem_map] at hx0
     have hdr : L.drop i=L[i] :: L.drop (i+1):=List.drop_eq_getElem_cons hlt2
     have hxm : L[i]∈L:=List.getElem_mem hlt2
     have hnd : L[i] ∉ L.drop (i+1):=by
      have:=J2 (HN.out.2.2.2.2.2.1.sublist (List.drop_sublist i L))
      rw [hdr] at this
      exact (List.nodup_cons.1 this).1
     generalize L[i]=x at *
     rw [hdr] at hTi hEi hcap
     rw [sumT,Nat.mul_add] at hcap
     have hlk:=I1 hrep hatp HN.out.2.2.2.1 hxm false
     simp only [Bool.false_eq_true,if_false] at hlk
     have hatx : At σ (x :: p):=⟨HN.out.2.2.2.2.1,by rw [C2 HN.out.2.2.2.1]; exact hxm⟩
     have hcall:=HIH.out (x :: p) wr g Ei osi voi moi hrep (fun q hq=>hEi x (by simp) q hq) hatx hly hTr (Nat.le_trans HN.out.2.2.2.2.2.2.2 hsz) (by omega) (fun q hq hne=>by have:=H0.out.2.2.2.2 q (suf_kid hq) hne; simp; omega)
     have hlay:=layT_objs σ d (x :: p) osi
     rw [Dj] at hTi
     generalize Cj σ d (x :: p) osi=r at *
     have hh:=(hrep.place p hatp).2
     unfold plC at hh
     rw [D5 (σ:=⟨σ.D,Ei⟩) HN.out.2.2.2.1] at hh
     have d5:=rc (i:=5) hh rfl
     have H1:=Ac (And.intro hTi (And.intro hEi (And.intro hEo (And.intro hEp (And.intro hps (And.intro hpl (And.intro hcap (And.intro hmv (And.intro hvn (And.intro hnd (And.intro hlay (And.intro hatx hpl2))))))))))))
     clear hTi hrep hEi hEo hEp hly hps hpl hcap hmv hvn hv' hcells hblk hcs hdr hxm hnd hlay hh hatp hatx hTr hpl2
     go_wp2_with fail
     refine hcall.mono ?_
     rintro e w3 ⟨rfl,hm3,h3⟩
     by_cases her : r.err≠0
     ·have q1 : (r.err != 0)=true:=by simpa using her
      have HF:=Ac (show LayP S B w g K M σ E p R (.returned (.int .i64 r.err)) w3 by
       have hk : T.1=r.err:=by rw [H1.out.1,if_pos her]
       have hRe : R.err=r.err:=by rw [HN.out.2.1,if_pos (by rw [hk]; exact her)]; exact hk
       exact ⟨by rw [hRe],H1.out.2.2.2.2.2.2.2.1.trans hm3 (Nx.refl _ _),fun e=>absurd (hRe ▸ e) her⟩)
      clear hcall hm3 h3 her
      go_wp2
      go_ret
      exact HF.out
     ·have q1 : (r.err != 0)=false:=by simpa using her
      obtain ⟨E3,hrep3,hE3x,hE3o,vo3,mo3,hly3⟩:=h3 (by simpa using her)
      have hat3:=(at_E (E:=E3) (x :: p)).2 H1.out.2.2.2.2.2.2.2.2.2.2.2.1
      have hk3:=(hrep3.place (x :: p) hat3).2
      unfold plC at hk3
      simp only [hE3x,hdN] at hk3
      have k0:=rc (i:=0) hk3 rfl
      have k1:=rc (i:=1) hk3 rfl
      have k2:=rc (i:=2) hk3 rfl
      have k3:=rc (i:=3) hk3 rfl
      have hent:=entry_any w3 x r.ent
      obtain ⟨er,her2⟩:=entryV_ent x r.ent
      rw [her2] at hent
      have hps3:=hm3.own0 H1.out.2.2.2.2.1 (by decide)
      have hvn3:=H1.out.2.2.2.2.2.2.2.2.1.mv hm3 (by decide)
      have H3:=Ac (And.intro hm3 (And.intro hrep3 (And.intro hE3x (And.intro hE3o (And.intro hly3 (And.intro hps3 hvn3))))))
      have hs3 : w.heap.size≤w3.heap.size:=Nat.le_trans hsz hm3.size
      have HER:=Ac (show r.err=0 by simpa using her)
      clear hcall hm3 hrep3 hE3x hE3o hly3 hps3 hvn3 hat3 hk3 her her2
      go_wp2_with fail
      refine hent.mono ?_
      rintro e w4 ⟨rfl,hb4⟩
      have hps4:=A0 H3.out.2.2.2.2.2.1 hb4
      have hs4 : w.heap.size≤w4.heap.size:=Nat.le_trans hs3 hb4.size
      obtain ⟨v5,w5,hrun5,hown5,hgr5,-⟩:=Kb w4 w.heap.size _ _ (x,entB x r.ent) hps4 hs4 (by have:=H1.out.2.2.2.2.2.1; have:=H1.out.2.2.2.2.2.2.2.2.2.2.2.2; omega)
      have hb5 : Below w4.heap.size w4 (w4.alloc (.cells #[.string (Ab x), .string (Ab (entB x r.ent))] 135)):=(Below.refl _ _).alloc (Nat.le_refl _) _
      have hpsA:=A0 hps4 hb5
      have hst : LayW S B w g K M σ E d p L T (.slice (some ⟨pb,off,none⟩) n nc) (i+1) v5 w5:=by
       obtain ⟨hTi,hEi,hEo,hEp,hps,hpl,hcap,hmv,hvn,hnd,hlay,hatx,hpl2⟩:=H1.out
       obtain ⟨hm3,hrep3,hE3x,hE3o,hly3,hps3,hvn3⟩:=H3.out
       have hb35 : Below w.heap.size w3 w5:=((hb4.mono hs3).trans (hb5.mono hs4)).grown hgr5 (by simp; omega) (fun q hq=>(hpsA.lt q hq).1)
       have hSW:=HN.out.2.2.2.2.2.2.2
       refine ⟨E3,ps ++ [(x,entB x r.ent)],r.objs,vo3,mo3,?_,hrep3.keep (fun q hq=>hb35.block _ ?_) (fun q hq hne=>hb35.block _ ?_),fun n' hn' q hq=>?_,fun q hq=>?_,?_,((hly3.below hb4).below hb5).grown hpsA hgr5 (by decide) (by decide),hown5,by rw [List.length_append,← hpl2,hpl]; rfl,by omega,(((hmv.trans hm3 (Nx.refl _ _)).more hb4 (by omega)).more hb5 (by omega)).grownNew hpsA hgr5 hBw,((hvn3.below hb4).below hb5).grown hpsA hgr5 (by decide)⟩
       ·rw [hTi,if_neg (by rw [HER.out]; simp)]
       ·exact Nat.lt_of_lt_of_le (HOK.out.lt q ((at_E q).1 hq)).1 hSW
       ·exact Nat.lt_of_lt_of_le ((HOK.out.lt q ((at_E q).1 hq)).2 hne) hSW
       ·rw [hE3o q (suf_other (fun e=>hnd (e ▸ hn')) hq)]
        exact hEi n' (List.mem_cons_of_mem _ hn') q hq
       ·rw [hE3o q (suf_up hq)]
        exact hEo q hq
       ·rw [hE3o p (not_suf x p)]
        exact hEp
      obtain ⟨fa,fm,fc,rfl⟩:=Av hown5
      have H5:=Ac hst
      clear hent hb4 hps4 hown5 hgr5 hb5 hpsA hst k0 k1 k2 k3
      go_wp2_with (at_builtin; refine wpList_plain rfl (fun K hK=>Cz (.tmp 51) (.tmp 55) 126 rfl rfl rfl hrun5 (hK _ _ ?_)))
      go_roundw
      case rel=>exact ⟨i+1,by omega,by go_num,H5.out⟩
      case measure=>simp [intOf]; omega
    ·have hin : i=n:=by omega
     have hall : L.drop i = []:=by rw [List.drop_eq_nil_iff]; have:=HN.out.1; omega
     rw [hall,Dj] at hTi
     rw [hall] at hcap
     have q5 : decide ((i : Int)<(n : Int))=false:=decide_eq_false (by omega)
     have hbd:=build_any wr ps (.slice pa pl pc) (by
      have:=Bi Dr hps
      exact this) hTr
     have hRT : R=if (Cl ps).2.2≠0 then ⟨(Cl ps).2.2,σ.E p,os⟩ else ⟨0,((σ.E p).1,(Cl ps).1,(ps.length : Int)),Bo osi (Cl ps).2.1⟩:=by
      rw [HN.out.2.1,hTi]
      simp
     have hbo:=N1 ps
     generalize Cl ps=bm at *
     obtain ⟨broot,bobjs,berr⟩:=bm
     simp only at hbd hRT hbo
     have H1:=Ac (And.intro hRT (And.intro hrep (And.intro hEo (And.intro hEp (And.intro hly (And.intro hcap (And.intro hmv (And.intro hpl2 (And.intro hatp hbo)))))))))
     clear hTi hrep hEi hEo hEp hly hps hpl hcap hmv hvn hall hatp hTr hRT hbo hpl2
     go_wp2_with fail
     refine hbd.mono ?_
     rintro e w6 ⟨u,rfl,hu,hb6⟩
     obtain ⟨ua,um,uc,rfl⟩:=Av hu
     have hs6 : w.heap.size≤w6.heap.size:=Nat.le_trans hsz hb6.size
     by_cases hbe : berr≠0
     ·have q1 : (berr != 0)=true:=by simpa using hbe
      have HF:=Ac (show LayP S B w g K M σ E p R (.returned (.int .i64 berr)) w6 by
       rw [H1.out.1,if_pos hbe]
       exact ⟨rfl,H1.out.2.2.2.2.2.2.1.more hb6 (by omega),fun e=>absurd e hbe⟩)
      clear hbd hu hb6 hbe
      go_wp2
      go_ret
      exact HF.out
     ·have q1 : (berr != 0)=false:=by simpa using hbe
      obtain ⟨hRT,hrep,hEo,hEp,hly,hcap,hmv,hpl2,hatp,hbo⟩:=H1.out
      rw [if_neg hbe] at hRT
      have hrep6:=hrep.below (Nat.le_refl _) hb6
      have hly6:=hly.below hb6
      have hmv6:=hmv.more hb6 (show B≤wr.heap.size by omega)
      have hh6:=(hrep6.place p hatp).2
      obtain ⟨hrep7,hm7⟩:=hrep6.ent hatp broot (ps.length : Int)
      have hh6b : w6.heap[K p]? = some (.cells #[.string (Ab (hdN p)), .int .i64 (Ei p).1, .string (Ab (Ei p).2.1), .int .i64 (Ei p).2.2,upV K p,inV ⟨σ.D,Ei⟩ M p] 75):=hh6
      have d2:=rc (i:=2) hh6b rfl
      have d3:=rc (i:=3) hh6b rfl
      have f2:=Af (j:=2) hh6b
      have f3:=Af (j:=3) hh6b
      have hh7:=Mp.heap_set hh6b 2 (.string (Ab broot))
      have hly7:=(hly6.set hh6b (.string (Ab broot)) (j:=2)).set hh7 (.int .i64 (ps.length : Int)) (j:=3)
      have hu7:=Ap (j:=3) (Ap (j:=2) hu hh6b (by decide) (.string (Ab broot))) hh7 (by decide) (.int .i64 (ps.length : Int))
      have hm67 : Mv B lats none w6 ((w6.setCell ⟨K p,2,none⟩ (.string (Ab broot))).setCell ⟨K p,3,none⟩ (.int .i64 (ps.length : Int))):=hm7.types (by simp)
      have hs7 : ((w6.setCell ⟨K p,2,none⟩ (.string (Ab broot))).setCell ⟨K p,3,none⟩ (.int .i64 (ps.length : Int))).heap.size=w6.heap.size:=by simp [World.setCell]
      rw [← hpl2] at hrep7 hly7 hu7 hm67 hs7 hRT
      obtain ⟨w7,hw7⟩ : ∃ w7,w7=(w6.setCell ⟨K p,2,none⟩ (.string (Ab broot))).setCell ⟨K p,3,none⟩ (.int .i64 (pl : Int)):=⟨_,rfl⟩
      rw [← hw7] at hrep7 hly7 hu7 hm67 hs7
      have hkeep:=keep_any w7 S g osi bobjs voi (.slice ua um uc) moi wr.heap.size hly7 hu7 (fun q hq=>(hly.row.lt q hq).2) (by omega)
      have HFIN:=Ac (show ∀ w8,(∃ vo' mb',LyW S w8 g (Bo osi bobjs) vo' mb')→Mv S lyts none w7 w8→LayP S B w g K M σ E p R (.returned (.int .i64 0)) w8 from fun w8 ⟨vo8,mb8,hly8⟩ hm8=>by
       rw [hRT]
       refine ⟨rfl,(hmv6.trans hm67 (Nx.refl _ _)).trans ((hm8.types (by simp)).base HOK.out.le) (Nx.refl _ _),fun _=>⟨upd Ei p ((Ei p).1,broot,(pl : Int)),?_,?_,fun q hq=>?_,vo8,some mb8,hly8.o⟩⟩
       ·exact hrep7.keep (fun q hq=>hm8.b.block _ (HOK.out.lt q ((at_E q).1 hq)).1) (fun q hq hne=>hm8.b.block _ ((HOK.out.lt q ((at_E q).1 hq)).2 hne))
       ·rw [Bw,hEp]
       ·rw [Bf (suf_ne (n:=[]) hq).1]
        exact hEo q hq)
      clear hbd hu hb6 hbe hRT hrep hEo hEp hly hcap hmv hatp hbo hrep6 hly6 hmv6 hh6 hh6b hrep7 hm7 hh7 hly7 hu7 hm67 hs7 H1 hpl2
      go_wp2_with fail
      try rw [← hw7]
      go_wp2_with fail
      refine hkeep.mono ?_
      rintro e w8 ⟨rfl,h8,hm8⟩
      have HF:=Ac (HFIN.out w8 h8 hm8)
      clear hkeep h8 hm8
      go_wp2
      go_ret
      exact HF.out
end Go.Proofs.YtckejblkppllaaaGreatDoor
namespace Go.Proofs.YtckejblkppllaaaGreatDoor
open Go.RowKit
def edC (x : EdP) : List Value:=[.string (Ab x.1), .string (Ab x.2.1), .int .i64 x.2.2.1, .bool x.2.2.2]
theorem Jt (root : Bs) : ∀ p,At (Ec root) p→p = []
 | [],_=>rfl
 | n :: p,⟨_,h⟩=>by cases h
theorem start_rep (w : World) (root : Bs) (k : Nat) (h : w.heap[k]? = some (.cells (Em (rootE root) (.pointer none) (.map none)) 75)) (B : Nat) (hB : B≤k) : Rep B w (Ec root) (fun _=>k) (fun _=>0):=
 ⟨fun p hp=>by rw [Jt root p hp]; exact ⟨hB,h⟩,fun p L hp hD=>(by cases hD),fun p q hp hq _=>(Jt root p hp).trans (Jt root q hq).symm,fun p q hp hq h1=>absurd rfl h1⟩
def EdW (fd : Bs→Option Bs) (B : Nat) (w1 : World) (k : Nat) (xs : List EdP) (T : Int × Tre) (i : Nat) (wr : World) : Prop:=
 ∃ σ K M,T=Eh fd (xs.drop i) σ∧Rep B wr σ K M∧K []=k∧Bn σ∧Mv B plts none w1 wr
set_option maxRecDepth 40000 in
set_option maxHeartbeats 1600000 in
theorem edit_any (w : World) (Bg c : Nat) (v : Value) (objs : List Ag) (hG : Gf Bg w c v objs) (hBg : Bg≤w.heap.size) (root : Bs) (hroot : root.length≤140737488355328) (xs : List EdP) (ve : Value) (hxs : Ls w.heap.size w 4 edC ve xs) (hn : xs.length≤1000) (hl : ∀ x∈xs,x.1.length≤4611686018427387000) (hT : Bh w) :
  Calls Tryz.prog 16 #[Cf c, .string (Ab root),ve] w fun e w'=>∃ vo,e = .returned (.tuple #[.string (Ab (editT (Aj objs) root xs).1),vo, .int .i64 (editT (Aj objs) root xs).2.2])∧Rw w.heap.size w' 38 2 Ak vo (editT (Aj objs) root xs).2.1∧Below w.heap.size w w':=by
 obtain ⟨ea,ec,rfl,-,-,hcells⟩:=hxs
 obtain ⟨R,hR⟩ : ∃ R,R=editT (Aj objs) root xs:=⟨_,rfl⟩
 rw [← hR]
 have hgood:=Gd.edits (fd:=Aj objs) (Fy hG.short) xs (N9 root) (Nat.le_refl _)
 unfold editT at hR
 obtain ⟨T,hT0⟩ : ∃ T,T=Eh (Aj objs) xs (Ec root):=⟨_,rfl⟩
 rw [← hT0] at hR hgood
 obtain ⟨n,hnn⟩ : ∃ n,n=xs.length:=⟨_,rfl⟩
 rw [← hnn] at hn ⊢
 have hro:=Mf w root hroot
 have hnf:=fun W=>eql_nilG W c
 have HN:=Ac (And.intro hnn (And.intro hR (And.intro hT0 (And.intro hgood (And.intro hG (And.intro hT (And.intro hBg hl)))))))
 have HC:=Ac hcells
 clear hnn hR hT0 hgood hG hT hBg hl hcells
 go_enter Tryz.func16,Tryz.ntmps16
 go_wp2_with fail
 refine hro.mono ?_
 rintro e w1 ⟨k,rfl,hk,hpl,hb1⟩
 obtain ⟨hnn,hR,hT0,hgood,hG,hT,hBg,hl⟩:=HN.out
 have hb2 : Below w1.heap.size w1 (w1.alloc (.cells (edB c k) 89)):=(Below.refl _ _).alloc (Nat.le_refl _) _
 have hg2:=heap_last w1 (.cells (edB c k) 89) _ rfl
 have hpl2:=(hb2.block _ (Ad hpl)).trans hpl
 have hB2:=hb1.trans (hb2.mono hb1.size)
 have hs2 : (w1.alloc (.cells (edB c k) 89)).heap.size=w1.heap.size+1:=by simp
 obtain ⟨g,hg⟩ : ∃ g,g=w1.heap.size:=⟨_,rfl⟩
 rw [← hg] at hg2
 have hst:=start_rep _ root k hpl2 w.heap.size hk
 have hgw : w.heap.size≤g:=by have:=hb1.size; omega
 have hkg : k<g:=by have:=Ad hpl; omega
 obtain ⟨w2,hw2⟩ : ∃ w2,w2=w1.alloc (.cells #[Cf c,ptr k] 89):=⟨_,rfl⟩
 rw [show (w1.alloc (.cells (edB c k) 89))=w2 from hw2.symm] at hb2 hg2 hpl2 hB2 hs2 hst
 have HS:=Ac (show EdW (Aj objs) w.heap.size w2 k xs T 0 w2 from ⟨_,_,_,hT0,hst,rfl,(N9 root).rises,Mv.refl _ _ _ _⟩)
 have H2:=Ac (And.intro hB2 (And.intro hg2 hs2))
 have hgr : w1.heap.size=g:=hg.symm
 clear hro hpl hb1 hb2 hg2 hpl2 hB2 hst hs2 hg
 go_wp2_with fail
 try rw [hgr]
 try rw [← hw2]
 go_wp2_with fail
 go_loopw [22] (fun t wr=>∃ i : Nat,i≤n∧t = .int .i64 i∧EdW (Aj objs) w.heap.size w2 k xs T i wr)
  (fun t _=>n - (intOf t).toNat)
 case atStart=>exact ⟨0,by omega,rfl,HS.out⟩
 case round=>
  obtain ⟨i,hi,rfl,σ,K,M,hTi,hrep,hK0,hri,hmv⟩:=hrel
  have hBr : w.heap.size≤wr.heap.size:=Nat.le_trans H2.out.1.size hmv.size
  have hgr2:=hmv.k _ _ _ _ H2.out.2.1 (by decide) (by simp)
  by_cases hlt : i<n
  ·have hlt2 : i<xs.length:=by omega
   obtain ⟨pb,off,rfl,hpb,hc⟩:=HC.out (by rintro rfl; simp at hlt2)
   have hbw:=H2.out.1.trans hmv.b
   have e0:=(hbw.cell (p:=⟨pb,off+i * 4+0,none⟩) hpb).trans (hc i hlt2 0 _ rfl)
   have e1:=(hbw.cell (p:=⟨pb,off+i * 4+1,none⟩) hpb).trans (hc i hlt2 1 _ rfl)
   have e2:=(hbw.cell (p:=⟨pb,off+i * 4+2,none⟩) hpb).trans (hc i hlt2 2 _ rfl)
   have e3:=(hbw.cell (p:=⟨pb,off+i * 4+3,none⟩) hpb).trans (hc i hlt2 3 _ rfl)
   simp only [Nat.add_zero] at e0
   have hdr : xs.drop i=xs[i] :: xs.drop (i+1):=List.drop_eq_getElem_cons hlt2
   have hxl:=hl xs[i] (List.getElem_mem hlt2)
   generalize xs[i]=x at *
   rw [hdr,Eh] at hTi
   have hb3 : Below wr.heap.size wr (wr.alloc (.cells #[.string (Ab x.1), .string (Ab x.2.1), .int .i64 x.2.2.1, .bool x.2.2.2] 64)):=(Below.refl _ _).alloc (Nat.le_refl _) _
   have hy:=heap_last wr (.cells #[.string (Ab x.1), .string (Ab x.2.1), .int .i64 x.2.2.1, .bool x.2.2.2] 64) _ rfl
   have y0:=rc (i:=0) hy rfl
   have y1:=rc (i:=1) hy rfl
   have y2:=rc (i:=2) hy rfl
   have y3:=rc (i:=3) hy rfl
   have hgA:=(hb3.block _ (Ad hgr2)).trans hgr2
   rw [← hK0] at hgA
   have hdo:=do_any (hrep.below (Nat.le_refl _) hb3) hri (hG.below ((hbw.trans (hb3.mono hBr)).mono hBg)) hBg (show w.heap.size≤(wr.alloc (.cells #[.string (Ab x.1), .string (Ab x.2.1), .int .i64 x.2.2.1, .bool x.2.2.2] 64)).heap.size by simp; omega) hgA x hxl
   generalize doS (Aj objs) σ x=D at *
   have H3:=Ac (And.intro hTi (And.intro (hmv.more hb3 hBr) hK0))
   clear hTi hrep hri hmv hgr2 hc hbw hdr hb3 hy hgA hK0
   go_wp2_with fail
   refine hdo.mono ?_
   rintro e w4 ⟨rfl,⟨K4,M4,hrep4,hK4⟩,hri4,hmv4⟩
   have hm4:=H3.out.2.1.trans hmv4 (Nx.refl _ _)
   by_cases her : D.1≠0
   ·have q1 : (D.1 != 0)=true:=by simpa using her
    have hRe : R=([],[],D.1):=by
     have hT1 : T.1=D.1:=by rw [H3.out.1,if_pos her]
     rw [hR,if_pos (by rw [hT1]; exact her),hT1]
    have HF:=Ac (And.intro hRe (H2.out.1.trans hm4.b))
    clear hdo hrep4 hri4 hmv4 hm4 her hRe
    go_wp2
    go_ret3
    rw [HF.out.1]
    exact ⟨_,rfl,World.ownsRow_nil _ _ _ _,HF.out.2⟩
   ·have q1 : (D.1 != 0)=false:=by simpa using her
    have HF:=Ac (show EdW (Aj objs) w.heap.size w2 k xs T (i+1) w4 from ⟨D.2,K4,M4,by rw [H3.out.1,if_neg her],hrep4,hK4.trans H3.out.2.2,hri4,hm4⟩)
    clear hdo hrep4 hri4 hmv4 hm4 her
    go_wp2_with fail
    go_roundw
    case rel=>exact ⟨i+1,by omega,by go_num,HF.out⟩
    case measure=>simp [intOf]; omega
  ·have hin : i=n:=by omega
   have hall : xs.drop i = []:=by rw [List.drop_eq_nil_iff]; omega
   rw [hall,Eh] at hTi
   have q5 : decide ((i : Int)<(n : Int))=false:=decide_eq_false (by omega)
   rw [hTi] at hgood hR
   simp only [ne_eq,not_true_eq_false,if_false] at hgood hR
   have hb3 : Below wr.heap.size wr (wr.alloc (.cells #[.slice none 0 0, .map none] 93)):=(Below.refl _ _).alloc (Nat.le_refl _) _
   have hly:=heap_last wr (.cells #[.slice none 0 0, .map none] 93) _ rfl
   have hsL : (wr.alloc (.cells #[.slice none 0 0, .map none] 93)).heap.size=wr.heap.size+1:=by simp
   have hgA:=(hb3.block _ (Ad hgr2)).trans hgr2
   have hbw:=H2.out.1.trans (hmv.b.trans (hb3.mono hBr))
   have hok : LayOk wr.heap.size w.heap.size σ K M:=⟨hri,hgood.names,fun p L e=>by have:=hgood.many p L e; omega,hT.1,hBr,fun q hq=>⟨hrep.lt hq,fun hne=>hrep.ltM hq hne⟩⟩
   have hcnt:=hgood.cnt 17 []
   have hcall:=layAll_any wr.heap.size w.heap.size σ K M hok 17 [] (wr.alloc (.cells #[.slice none 0 0, .map none] 93)) wr.heap.size σ.E [] (.slice none 0 0) none (hrep.below (Nat.le_refl _) hb3) (fun _ _=>rfl) trivial ⟨Nat.le_refl _,hly,World.ownsRow_nil _ _ _ _,fun _=>rfl,fun mb e=>by cases e⟩ (hT.keep hbw hT.1) (by omega) (by simp only [List.length_nil]; omega) (fun q _ hne=>by have:=hgood.deep q hne; simp only [List.length_nil]; omega)
   generalize hrr : Cj σ 17 [] []=r at *
   have y1:=rc (i:=1) hgA rfl
   rw [hK0] at hcall
   have H5:=Ac (And.intro hR (And.intro hbw (And.intro hgA hok)))
   clear hTi hR hgood hrep hri hmv hgr2 hall hb3 hly hsL hgA hbw hok hcnt hT hG hBg hl hT0 hrr
   go_wp2_with fail
   refine hcall.mono ?_
   rintro e w5 ⟨rfl,hm5,h5⟩
   by_cases her : r.err≠0
   ·have q1 : (r.err != 0)=true:=by simpa using her
    have HF:=Ac (show R=([],[],r.err)∧Below w.heap.size w w5 from ⟨by rw [H5.out.1,if_pos her],H5.out.2.1.trans hm5.b⟩)
    clear hcall hm5 h5 her y1
    go_wp2
    go_ret3
    rw [HF.out.1]
    exact ⟨_,rfl,World.ownsRow_nil _ _ _ _,HF.out.2⟩
   ·have q1 : (r.err != 0)=false:=by simpa using her
    obtain ⟨E',hrep5,hE',-,vo,mo,hly5⟩:=h5 (by simpa using her)
    have hg5:=hm5.k _ _ _ _ H5.out.2.2.1 (by decide) (by simp)
    have hk5:=(hrep5.place [] trivial).2
    unfold plC at hk5
    simp only [hE',hdN,hK0] at hk5
    have z1:=rc (i:=1) hg5 rfl
    have z2:=rc (i:=2) hk5 rfl
    have z3:=rc (i:=0) hly5.cell rfl
    have hrow5:=hly5.row
    obtain ⟨va,vm,vc,rfl⟩:=Av hrow5
    have HF:=Ac (show R=(r.ent.2.1,r.objs,0)∧Rw w.heap.size w5 38 2 Ak (.slice va vm vc) r.objs∧Below w.heap.size w w5 from ⟨by rw [H5.out.1,if_neg her],Dh hrow5 hBr,H5.out.2.1.trans hm5.b⟩)
    clear hcall hm5 h5 her hrep5 hE' hly5 hg5 hk5 hrow5 y1
    go_wp2_with fail
    go_quiet (fail)
    go_wp2
    go_ret3
    rw [HF.out.1]
    exact ⟨_,rfl,HF.out.2.1,below_drewN HF.out.2.2 _⟩
end Go.Proofs.YtckejblkppllaaaGreatDoor
namespace Go.Proofs.YtckejblkppllaaaGreatDoor
open Go.RowKit
def xB (c : UInt8) : Bs:=List.replicate 32 c
def ed1 : EdP:=([97,47,98,47,99],xB 120,5,false)
def ed2 : EdP:=([97,47,100],xB 121,5,false)
def prB : List Ag:=[([99],entB [99] (1,xB 120,5))]
def oB : Ag:=Ay prB
def prA : List Ag:=[([98],entB [98] (2,oB.1,1)),([100],entB [100] (1,xB 121,5))]
def oA : Ag:=Ay prA
def prR : List Ag:=[([97],entB [97] (2,oA.1,2))]
def oR : Ag:=Ay prR
theorem Ia : oB.1≠oA.1∧oB.1≠oR.1∧oA.1≠oR.1:=by decide +kernel
theorem okB : Ce prB=true∧A5 ltB prB=true∧(Bv prB).length≤1000:=by decide +kernel
theorem okA : Ce prA=true∧A5 ltB prA=true∧(Bv prA).length≤1000:=by decide +kernel
theorem okR : Ce prR=true∧A5 ltB prR=true∧(Bv prR).length≤1000:=by decide +kernel
theorem entsOk : Ck [98] (2,oB.1,1)=true∧Ck [97] (2,oA.1,2)=true:=by decide +kernel
theorem gath_one {α : Type} (e : Nat→α→Bool) (x : α) : Bp e [] [x] = [[x]]:=by
 rw [Bp]
 split
 ·rfl
 ·rfl
theorem build_one (p : Ag) (h : Ce [p]=true) : Cl [p]=((Ay [p]).1,[Ay [p]],0):=by
 rw [Lo (by simp) h,Ke (by simp)]
 have : C3 [p] = [[p]]:=gath_one _ p
 rw [this,Jf (by simp)]
 rfl
theorem ends98 : Cx 1 [98] 0=false:=by kernel_rfl
theorem build_two (a b : Bs) (h : Ce [([98],a),([100],b)]=true) : Cl [([98],a),([100],b)]=((Ay [([98],a),([100],b)]).1,[Ay [([98],a),([100],b)]],0):=by
 have hl : C3 [([98],a),([100],b)] = [[([98],a),([100],b)]]:=by
  unfold C3
  rw [Bp,if_neg (by rw [show ([] : List Ag).length+1=1 from rfl,ends98]; simp),Bp]
  split
  ·rfl
  ·rfl
 rw [Lo (by simp) h,Ke (by simp),hl,Jf (by simp)]
 rfl
theorem build_nil : Cl []=((Ay []).1,[Ay []],0):=Mu
section
variable (fd : Bs→Option Bs) (root : Bs)
def sh1 (root : Bs) : Tre:=Be (A9 (Be (A9 (Be (A9 (Ec root) []) [] [97] newD) [[97]]) [[97]] [98] newD) [[98],[97]]) [[98],[97]] [99] (1,xB 120,5)
def sh2 (root : Bs) : Tre:=Be (sh1 root) [[97]] [100] (1,xB 121,5)
theorem shown_into (h : Dt fd ([],2,root,0)=(0,[])) : Cn fd (Ec root) []=(0,A9 (Ec root) []):=by
 unfold Cn
 rw [if_neg (by simp [Ec]),if_neg (by simp [Ec]),show (hdN [],(Ec root).E [])=([],2,root,0) from rfl,h,if_neg (by simp)]
 rfl
theorem parts1 : Pa.Pt.path ed1.1=true∧Pa.Pt.parts ed1.1 = [[97],[98],[99]]:=by decide
theorem parts2 : Pa.Pt.path ed2.1=true∧Pa.Pt.parts ed2.1 = [[97],[100]]:=by decide
theorem right12 : F5 ed1=true∧F5 ed2=true:=by decide
theorem shown_do1 (h : Dt fd ([],2,root,0)=(0,[])) : doS fd (Ec root) ed1=(0,sh1 root):=by
 unfold doS
 rw [if_neg (by rw [parts1.1,parts1.2]; simp),if_neg (by rw [right12.1]; simp),shown_into fd root h,parts1.2]
 rfl
theorem shown_do2 : doS fd (sh1 root) ed2=(0,sh2 root):=by
 unfold doS
 rw [if_neg (by rw [parts2.1,parts2.2]; simp),if_neg (by rw [right12.2]; simp),parts2.2]
 rfl
theorem Jv {σ : Tre} {d : Nat} {p L : List Bs} {os os' : List Ag} {ps : List Ag} {id : Bs} {o : List Ag} (hD : σ.D p=some L) (hk : Dj (Cj σ d) p L [] os=(0,ps,os')) (hb : Cl ps=(id,o,0)) : Cj σ (d+1) p os=⟨0,((σ.E p).1,id,(ps.length : Int)),Bo os' o⟩:=by
 rw [Cj,hD]
 simp only [hk,hb]
 simp
theorem layT_leaf {σ : Tre} {d : Nat} {p : List Bs} {os : List Ag} (hD : σ.D p=none) : Cj σ d p os=⟨0,σ.E p,os⟩:=by
 cases d with
 | zero=>rfl
 | succ d=>rw [Cj,hD]
theorem In {f : List Bs→List Ag→LayR} {p : List Bs} {n : Bs} {ns : List Bs} {ps os : List Ag} {r : LayR} (h : f (n :: p) os=r) (h0 : r.err=0) : Dj f p (n :: ns) ps os=Dj f p ns (ps ++ [(n,entB n r.ent)]) r.objs:=by
 rw [Dj,h,if_neg (by rw [h0]; simp)]
theorem keptP_one (os : List Ag) (o : Ag) : Bo os [o]=C7 os o:=rfl
theorem layP_new {os : List Ag} {o : Ag} (h : ∀ x∈os,x.1≠o.1) : C7 os o=os ++ [o]:=by
 unfold C7
 rw [if_neg]
 intro hc
 obtain ⟨x,hx,he⟩:=List.any_eq_true.1 hc
 exact h x hx (by simpa using he)
theorem shown_lay : Cj (sh2 root) 17 [] []=⟨0,(2,oR.1,1),[oB,oA,oR]⟩:=by
 have hB : Cj (sh2 root) 15 [[98],[97]] []=⟨0,(2,oB.1,1),[oB]⟩:=by
  have hk : Dj (Cj (sh2 root) 14) [[98],[97]] [[99]] [] []=(0,prB,[]):=by
   rw [In (layT_leaf (show (sh2 root).D [[99],[98],[97]]=none from rfl)) rfl,Dj]
   rfl
  rw [Jv (show (sh2 root).D [[98],[97]]=some [[99]] from rfl) hk (build_one _ okB.1)]
  rfl
 have hA : Cj (sh2 root) 16 [[97]] []=⟨0,(2,oA.1,2),[oB,oA]⟩:=by
  have hk : Dj (Cj (sh2 root) 15) [[97]] [[98],[100]] [] []=(0,prA,[oB]):=by
   rw [In hB rfl,In (layT_leaf (show (sh2 root).D [[100],[97]]=none from rfl)) rfl,Dj]
   rfl
  rw [Jv (show (sh2 root).D [[97]]=some [[98],[100]] from rfl) hk (build_two _ _ okA.1),keptP_one,layP_new (by simp only [List.mem_singleton,forall_eq]; exact Ia.1)]
  rfl
 have hk : Dj (Cj (sh2 root) 16) [] [[97]] [] []=(0,prR,[oB,oA]):=by
  rw [In hA rfl,Dj]
  rfl
 rw [Jv (show (sh2 root).D []=some [[97]] from rfl) hk (build_one _ okR.1),keptP_one,layP_new (fun x hx=>by
  rcases List.mem_cons.1 hx with rfl | hx
  ·exact Ia.2.1
  ·rw [List.mem_singleton.1 hx]; exact Ia.2.2)]
 rfl
theorem shown_edit0 (h : Dt fd ([],2,root,0)=(0,[])) : editT fd root [ed1,ed2]=(oR.1,[oB,oA,oR],0):=by
 have he : Eh fd [ed1,ed2] (Ec root)=(0,sh2 root):=by
  rw [Eh,shown_do1 fd root h,if_neg (by simp),Eh,shown_do2,if_neg (by simp),Eh]
 unfold editT
 rw [he,if_neg (by simp),shown_lay]
 simp
end
theorem empty_ok : A5 ltB []=true:=by decide
theorem node_of {l : List Ag} (h : A5 ltB l=true) (hl : (Bv l).length≤1000) : Dd (Ay l).2=some (0,l,[]):=
 Ks ((Ib (76 :: Bv l) (by simp; omega) l).2 ⟨h,rfl⟩)
theorem shown_empty : Dt (Aj [Ay []]) ([],2,(Ay []).1,0)=(0,[]):=by
 have hf : Aj [Ay []] (Ay []).1=some (Ay []).2:=by unfold Aj; simp
 have ha:=Lc hf (node_of empty_ok (by decide))
 have hl : Co (Aj [Ay []]) (Ay []).1 [] []=⟨[(Ay []).1],[],0⟩:=by
  unfold Co
  rw [goM,ha,if_neg (by simp)]
  rfl
 unfold Dt
 simp only [hl]
 rfl
theorem shown_edit : editT (Aj [Ay []]) (Ay []).1 [ed1,ed2]=(oR.1,[oB,oA,oR],0):=shown_edit0 _ _ shown_empty
theorem taken_val {n : Bs} {v : Val} (h : Ck n v=true) : Dc n (valB v)=some v:=by
 rw [Nb]
 refine (Hi (fmVal _) (fun x hx=>?_) v).2 ⟨h,rfl⟩
 obtain ⟨h1,h2,h3⟩:=Ie hx
 exact ⟨Nq hx,h3,h2⟩
theorem find_in {fd : Bs→Option Bs} {o : Bs} {b : Bs} {l : List Ag} {n : Bs} {p : Ag} {v : Val} (hf : fd o=some b) (hn : Dd b=some (0,l,[])) (hk : As n=true) (hp : l.find? (fun p=>p.1 == n)=some p) (ht : Dc n p.2=some v) (s : Int) : Ed fd (2,o,s) n=(0,(n,v)):=by
 have hF : Cq fd o n []=(p.2,true,[o],0):=by
  unfold Cq
  rw [if_neg (by rw [hk]; simp),Lc hf hn,Lh (by omega) rfl rfl]
  show leafF (l.find? (fun p=>p.1 == n)) _=_
  rw [hp]
  rfl
 unfold Ed
 rw [if_neg (by simp)]
 simp only [hF]
 unfold E5
 rw [ht]
 simp
theorem shown_seek : Cp (Aj [oB,oA,oR]) oR.1 [97,47,98]=(0,([98],2,oB.1,1)):=by
 have hids:=Ia
 have fR : Aj [oB,oA,oR] oR.1=some oR.2:=by
  have h1 : (oB.1 == oR.1)=false:=by simpa using hids.2.1
  have h2 : (oA.1 == oR.1)=false:=by simpa using hids.2.2
  unfold Aj
  simp [h1,h2]
 have fA : Aj [oB,oA,oR] oA.1=some oA.2:=by
  have h1 : (oB.1 == oA.1)=false:=by simpa using hids.1
  unfold Aj
  simp [h1]
 have e1 : entB [97] (2,oA.1,2)=valB (2,oA.1,2):=by unfold entB; rw [if_pos entsOk.2]
 have e2 : entB [98] (2,oB.1,1)=valB (2,oB.1,1):=by unfold entB; rw [if_pos entsOk.1]
 unfold Cp
 rw [if_neg (by decide),show Pa.Pt.parts [97,47,98] = [[97],[98]] from by decide]
 rw [goE,show (rootE oR.1).2=(2,oR.1,0) from rfl,find_in (p:=([97],entB [97] (2,oA.1,2))) fR (node_of okR.2.1 okR.2.2) (by decide) rfl (by rw [e1]; exact taken_val entsOk.2),if_neg (by simp),goE,find_in (p:=([98],entB [98] (2,oB.1,1))) fA (node_of okA.2.1 okA.2.2) (by decide) rfl (by rw [e2]; exact taken_val entsOk.1),if_neg (by simp),goE]
end Go.Proofs.YtckejblkppllaaaGreatDoor
