/-
  Names of a disk that stands; which of many. Conditions: as each says.
-/
import Derived.Test.YtblniomnhpedjaaGreatDoorP41MildPure
import Derived.Test.YtblniomnhpedjaaGreatDoorP42Names
import Derived.Test.YtblniomnhpedjaaGreatDoorP13CrashRun
namespace Go.Proofs.YtblniomnhpedjaaGreatDoor
open Go.RowKit
variable {B : Nat} {w : World} {F : Nat→Prop} {d : Nat} {S : Dk}
theorem few_ids1 (n : Nat) (l : List Nat) (h : l.Nodup) (hn : ∀ i∈l,i<n) : l.length≤n:=by
 have h1:=lens_le (List.replicate n ⟨[0],0⟩) l h
 have h2 : (l.map (Az (List.replicate n ⟨[0],0⟩))).sum=l.length:=by
  clear h h1
  induction l with
  | nil=>rfl
  | cons a r ih=>
   have ha:=hn a (by simp)
   have e : Az (List.replicate n ⟨[0],0⟩) a=1:=by simp [Az,ha]
   simp [e,ih (fun i hi=>hn i (by simp [hi]))]
   omega
 have h3 : ((List.replicate n (⟨[0],0⟩ : Fl)).map fun f=>f.b.length).sum=n:=by simp
 omega
theorem Qw (h : Bi B w F d S) (hb : S.bulk<1099511627776) :
  Calls Tryz.prog 26 #[.pointer (some ⟨d,0,none⟩)] w fun e w'=>∃ v,e = .returned v∧w'.ownsRow w.heap.size 9 1 v S.dir.length (tc (S.dir.map (·.1)))∧Bi B w' F d S∧Chg (fun _=>False) w w'∧S.dir.length≤S.bulk:=by
 have h0:=h
 obtain ⟨⟨G,hr⟩,h2,h3⟩:=h
 have hl : S.dir.length≤S.files.length:=by
  have:=few_ids1 S.files.length (ids S.dir) hr.ok.oneD (fun i hi=>hr.ok.idD hi)
  simpa [ids] using this
 have hf : S.files.length≤S.bulk:=by unfold Dk.bulk; omega
 refine (names_rep hr (fun p hp=>?_) (by omega)).mono ?_
 ·have:=Hr (h3.dir hr.ok p hp)
  omega
 ·rintro e w' ⟨v,rfl,hrow,hc⟩
  exact ⟨v,rfl,hrow,h0.keep hc (fun _ _ h=>h),hc,by omega⟩
set_option maxRecDepth 20000 in
theorem M5 (w : World) (c n : Int) (hc : -9223372036854775808≤c∧c≤9223372036854775807) (hn : 0<n∧n≤4611686018427387904) :
  Calls Tryz.prog 12 #[.int .i64 c, .int .i64 n] w fun e w'=>e = .returned (.int .i64 (pk c n))∧w'=w:=by
 have hn0 : ¬ n=0:=by omega
 unfold pk
 by_cases h : c<0
 ·rw [if_pos h]
  have hm : (-(c+1)).tmod n=(-(c+1)) % n:=Int.tmod_eq_emod_of_nonneg (by omega)
  have h1:=Int.emod_nonneg (-(c+1)) (show n≠0 by omega)
  have h2:=Int.emod_lt_of_pos (-(c+1)) (show 0<n by omega)
  go_enter Tryz.func12,Tryz.ntmps12
  go_wp2
  go_ret
  exact ⟨ret_i (by first | rfl | omega),rfl⟩
 ·rw [if_neg h]
  have hm : c.tmod n=c % n:=Int.tmod_eq_emod_of_nonneg (by omega)
  have h1:=Int.emod_nonneg c (show n≠0 by omega)
  have h2:=Int.emod_lt_of_pos c (show 0<n by omega)
  go_enter Tryz.func12,Tryz.ntmps12
  go_wp2
  go_ret
  exact ⟨ret_i (by first | rfl | omega),rfl⟩
end Go.Proofs.YtblniomnhpedjaaGreatDoor
