/-
  Names of a disk that stands; which of many. Conditions: as each says.
-/
import Derived.Test.YtblniomnhpedjaaGreatDoorL43MildPure
import Derived.Test.YtblniomnhpedjaaGreatDoorL44Names
import Derived.Test.YtblniomnhpedjaaGreatDoorL14CrashRun
namespace Go.Proofs.YtblniomnhpedjaaGreatDoor
open Go.RowKit
variable {B : Nat} {w : World} {F : Nat→Prop} {d : Nat} {S : Dk}
set_option maxRecDepth 20000 in
theorem pick_big (w : World) (c n : Int) (hc : -9223372036854775808≤c∧c≤9223372036854775807) (hn : 0<n∧n≤4611686018427387904) :
  Calls Tryz.prog 12 #[.int .i64 c, .int .i64 n] w fun e w'=>e = .returned (.int .i64 (pk c n))∧w'=w:=by
 have hn0 : ¬ n=0:=by omega
 unfold pk
 by_cases h : c<0
 ·rw [if_pos h]
  have hm : (-(c+1)).tmod n=(-(c+1)) % n:=Int.tmod_eq_emod_of_nonneg (by omega)
  have h1:=Int.emod_nonneg (-(c+1)) (show n≠0 by omega)
  have h2:=Int.emod_lt_of_pos (-(c+1)) (show 0<n by omega)
  go_enter Tryz.func12,Tryz.ntmps12
  go_wp2
  go_ret
  exact ⟨ret_i (by first | rfl | omega),rfl⟩
 ·rw [if_neg h]
  have hm : c.tmod n=c % n:=Int.tmod_eq_emod_of_nonneg (by omega)
  have h1:=Int.emod_nonneg c (show n≠0 by omega)
  have h2:=Int.emod_lt_of_pos c (show 0<n by omega)
  go_enter Tryz.func12,Tryz.ntmps12
  go_wp2
  go_ret
  exact ⟨ret_i (by first | rfl | omega),rfl⟩
end Go.Proofs.YtblniomnhpedjaaGreatDoor
