/-
  Rows of links, pairs, objects: one more, many more. Conditions: not too many.
-/
import Derived.Test.YtckejblkppllaaaGreatDoorT15PPlain
import Derived.Test.YtckejblkppllaaaGreatDoorT16ORBranch2
namespace Go.Proofs.YtckejblkppllaaaGreatDoor
open Go.RowKit
theorem Tryz.zObj : (Tryz.prog.info? 38).map (fun i=>(i.zero,i.size,i.bytes))=some (some (.agg #[.string ⟨#[]⟩, .string ⟨#[]⟩]),2,32):=by kernel_rfl
theorem Fv {w : World} {B B' k n : Nat} {e : TypeId} {v : Value} {xs : List Value} (h : w.ownsRow B' e k v n xs) (hb : B≤B') : w.ownsRow B e k v n xs:=by
 obtain ⟨h1,h2⟩:=h
 refine ⟨h1,?_⟩
 rcases h2 with h2 | ⟨g,cap,cells,a,b,c⟩
 ·exact .inl h2
 ·exact .inr ⟨g,cap,cells,a,by omega,c⟩
theorem Lm {w : World} {g j b o : Nat} {u : Value} (h : b≠g) : (w.setCell ⟨g,j,none⟩ u).cell? ⟨b,o,none⟩=w.cell? ⟨b,o,none⟩:=
 World.cell?_setCell_other _ _ _ _ (by intro e; injection e with e; omega)
theorem Ls.part {α : Type} {B : Nat} {w : World} {k : Nat} {cs : α→List Value} {b off n cap : Nat} {xs : List α} (h : Ls B w k cs (.slice (some ⟨b,off,none⟩) n cap) xs) {a z : Nat} (ha : a≤z) (hz : z≤xs.length) : Ls B w k cs (.slice (some ⟨b,off+a * k,none⟩) (z - a) (cap - a)) ((xs.take z).drop a):=by
 obtain ⟨ao,cp,hv,h1,h2,h4⟩:=h
 injection hv with e1 e2 e3
 subst e1 e2 e3
 have hl : ((xs.take z).drop a).length=z - a:=by simp; omega
 refine ⟨_,_,by rw [hl],by rw [hl]; omega,by omega,fun hne=>?_⟩
 have hx : xs ≠ []:=by
  rintro rfl
  simp at hne
 obtain ⟨b',off',e,hb,hc⟩:=h4 hx
 injection e with e
 injection e with e1 e2 e3
 subst e1 e2
 refine ⟨_,_,rfl,hb,fun j hj i u hu=>?_⟩
 rw [hl] at hj
 have hu' : (cs (xs[a+j]'(by omega)))[i]? = some u:=by simpa using hu
 have:=hc (a+j) (by omega) i u hu'
 rwa [Nat.add_mul,← Nat.add_assoc] at this
theorem app_obj (w : World) (B : Nat) (v : Value) (xs : List Ag) (p : Ag) (h : Rw B w 38 2 Ak v xs) (hB : B≤w.heap.size) (hn : xs.length≤4294967296) :
  ∃ v' w',(Builtin.append_ #[22,22] 22 #[v, .slice (some ⟨w.heap.size,0,none⟩) 1 1]).run Tryz.prog (w.alloc (.cells #[.string (Ab p.1), .string (Ab p.2)] 38)) = .ok v' w' ∧
   Rw B w' 38 2 Ak v' (xs ++ [p])∧(w.alloc (.cells #[.string (Ab p.1), .string (Ab p.2)] 38)).grownBy w' v.ownBlock∧(v'.ownBlock=v.ownBlock∨v'.ownBlock=some (w.heap.size+1)):=by
 obtain ⟨i0,hi,hz0,hz1,hz2⟩:=info_parts Tryz.zObj
 have hx:=heap_last w (.cells #[.string (Ab p.1), .string (Ab p.2)] 38) _ rfl
 obtain ⟨v',w',h1,h2,h3,-,h4⟩:=run_append_own_at (P:=Tryz.prog) (w.alloc (.cells #[.string (Ab p.1), .string (Ab p.2)] 38)) B 22 22 38 i0 (.agg #[.string ⟨#[]⟩, .string ⟨#[]⟩]) 2 32 Tryz.underlying22 hi hz0 hz1 hz2 rfl (by decide) v xs.length (xs.flatMap Ak) (h.alloc _) ⟨w.heap.size,0,none⟩ 1 1 (Ak p) rfl (fun j u hu=>by
   rw [Addr.add_lit,Nat.zero_add,cell_of_row _ _ _ _ _ _ hx,List.getElem?_toArray]; exact hu) (by simp [Ak,Value.oneCell']) (by unfold maxLen; omega) (by omega) (by simp; omega)
 refine ⟨v',w',h1,?_,h3,by simpa using h4⟩
 unfold Rw
 rw [List.length_append,List.flatMap_append]
 simpa using h2
theorem Kb (w : World) (B : Nat) (v : Value) (xs : List Ag) (p : Ag) (h : Rw B w 135 2 Ak v xs) (hB : B≤w.heap.size) (hn : xs.length≤4294967296) :
  ∃ v' w',(Builtin.append_ #[126,126] 126 #[v, .slice (some ⟨w.heap.size,0,none⟩) 1 1]).run Tryz.prog (w.alloc (.cells #[.string (Ab p.1), .string (Ab p.2)] 135)) = .ok v' w' ∧
   Rw B w' 135 2 Ak v' (xs ++ [p])∧(w.alloc (.cells #[.string (Ab p.1), .string (Ab p.2)] 135)).grownBy w' v.ownBlock∧(v'.ownBlock=v.ownBlock∨v'.ownBlock=some (w.heap.size+1)):=by
 obtain ⟨i0,hi,hz0,hz1,hz2⟩:=info_parts Tryz.zPair
 have hx:=heap_last w (.cells #[.string (Ab p.1), .string (Ab p.2)] 135) _ rfl
 obtain ⟨v',w',h1,h2,h3,-,h4⟩:=run_append_own_at (P:=Tryz.prog) (w.alloc (.cells #[.string (Ab p.1), .string (Ab p.2)] 135)) B 126 126 135 i0 (.agg #[.string ⟨#[]⟩, .string ⟨#[]⟩]) 2 32 Tryz.underlying126 hi hz0 hz1 hz2 rfl (by decide) v xs.length (xs.flatMap Ak) (h.alloc _) ⟨w.heap.size,0,none⟩ 1 1 (Ak p) rfl (fun j u hu=>by
   rw [Addr.add_lit,Nat.zero_add,cell_of_row _ _ _ _ _ _ hx,List.getElem?_toArray]; exact hu) (by simp [Ak,Value.oneCell']) (by unfold maxLen; omega) (by omega) (by simp; omega)
 refine ⟨v',w',h1,?_,h3,by simpa using h4⟩
 unfold Rw
 rw [List.length_append,List.flatMap_append]
 simpa using h2
theorem app_link (w : World) (B : Nat) (v : Value) (xs : List Ah) (p : Ah) (h : Rw B w 125 3 Au v xs) (hB : B≤w.heap.size) (hn : xs.length≤4294967296) :
  ∃ v' w',(Builtin.append_ #[127,127] 127 #[v, .slice (some ⟨w.heap.size,0,none⟩) 1 1]).run Tryz.prog (w.alloc (.cells #[.string (Ab p.1), .string (Ab p.2.1), .int .i64 p.2.2] 125)) = .ok v' w' ∧
   Rw B w' 125 3 Au v' (xs ++ [p])∧(w.alloc (.cells #[.string (Ab p.1), .string (Ab p.2.1), .int .i64 p.2.2] 125)).grownBy w' v.ownBlock∧(v'.ownBlock=v.ownBlock∨v'.ownBlock=some (w.heap.size+1)):=by
 obtain ⟨i0,hi,hz0,hz1,hz2⟩:=info_parts Tryz.zLink
 have hx:=heap_last w (.cells #[.string (Ab p.1), .string (Ab p.2.1), .int .i64 p.2.2] 125) _ rfl
 obtain ⟨v',w',h1,h2,h3,-,h4⟩:=run_append_own_at (P:=Tryz.prog) (w.alloc (.cells #[.string (Ab p.1), .string (Ab p.2.1), .int .i64 p.2.2] 125)) B 127 127 125 i0 (.agg #[.string ⟨#[]⟩, .string ⟨#[]⟩, .int .i64 0]) 3 40 Tryz.underlying127 hi hz0 hz1 hz2 rfl (by decide) v xs.length (xs.flatMap Au) (h.alloc _) ⟨w.heap.size,0,none⟩ 1 1 (Au p) rfl (fun j u hu=>by
   rw [Addr.add_lit,Nat.zero_add,cell_of_row _ _ _ _ _ _ hx,List.getElem?_toArray]; exact hu) (by simp [Au,Value.oneCell']) (by unfold maxLen; omega) (by omega) (by simp; omega)
 refine ⟨v',w',h1,?_,h3,by simpa using h4⟩
 unfold Rw
 rw [List.length_append,List.flatMap_append]
 simpa using h2
end Go.Proofs.YtckejblkppllaaaGreatDoor
