/-
  The law's does, whichever way it goes. Conditions: as it says.
-/
import Derived.Test.YtlejgdjkdbamkaaDoesA
import Derived.Test.YtlejgdjkdbamkaaDoesB
import Derived.Test.YtlejgdjkdbamkaaDoesC
import Derived.Test.YtlejgdjkdbamkaaDoesD
namespace Go.Proofs.Ytlejgdjkdbamkaa
open Go.RowKit

theorem does_any {B d r m : Nat} {S : Dk} (w : World) (hB : B ≤ w.heap.size) (h : Two B w d r S m) (kind nn torn : Int) (name tto : Nm) (u : Value) (bb : List UInt8) (hu : Sb B w u bb) (r0 : I64 kind) (r4 : I64 nn) (r5 : I64 torn) (hm : m ≤ 900)
    (hnl : name.length < 4611686018427387904) (htl : tto.length < 4611686018427387904) (hb : S.bulk + bb.length + 100 < 274877906944) :
    Calls Try.prog 13 #[.pointer (some ⟨d, 0, none⟩), .pointer (some ⟨r, 0, none⟩), .agg #[.int .i64 kind, .string (strB name), .string (strB tto), u, .int .i64 nn, .int .i64 torn]] w fun e w' => ∃ d' r' S', e = .returned (.tuple #[.pointer (some ⟨d', 0, none⟩), .pointer (some ⟨r', 0, none⟩), .bool true]) ∧ Two B w' d' r' S' (m + 2) ∧ S'.bulk ≤ S.bulk + bb.length + 10 ∧ Below B w w' := by
  have hpr := pk_range (c := kind) (n := 15) (by omega)
  have hcase : pk kind 15 = 0 ∨ pk kind 15 = 1 ∨ pk kind 15 = 2 ∨ pk kind 15 = 3 ∨ pk kind 15 = 4 ∨ pk kind 15 = 5 ∨ pk kind 15 = 6 ∨ pk kind 15 = 7 ∨ pk kind 15 = 8 ∨ pk kind 15 = 9 ∨ pk kind 15 = 10 ∨ pk kind 15 = 11 ∨ pk kind 15 = 12 ∨ pk kind 15 = 13 ∨ pk kind 15 = 14 := by omega
  rcases hcase with hk | hk | hk | hk | hk | hk | hk | hk | hk | hk | hk | hk | hk | hk | hk
  · exact does_arm0 w hB h kind nn torn name tto u bb hu r0 r4 r5 hm hnl htl hb hk
  · exact does_arm1 w hB h kind nn torn name tto u bb hu r0 r4 r5 hm hnl htl hb hk
  · exact does_arm2 w hB h kind nn torn name tto u bb hu r0 r4 r5 hm hnl htl hb hk
  · exact does_arm3 w hB h kind nn torn name tto u bb hu r0 r4 r5 hm hnl htl hb hk
  · exact does_arm4 w hB h kind nn torn name tto u bb hu r0 r4 r5 hm hnl htl hb hk
  · exact does_arm5 w hB h kind nn torn name tto u bb hu r0 r4 r5 hm hnl htl hb hk
  · exact does_arm6 w hB h kind nn torn name tto u bb hu r0 r4 r5 hm hnl htl hb hk
  · exact does_arm7 w hB h kind nn torn name tto u bb hu r0 r4 r5 hm hnl htl hb hk
  · exact does_arm8 w hB h kind nn torn name tto u bb hu r0 r4 r5 hm hnl htl hb hk
  · exact does_arm9 w hB h kind nn torn name tto u bb hu r0 r4 r5 hm hnl htl hb hk
  · exact does_arm10 w hB h kind nn torn name tto u bb hu r0 r4 r5 hm hnl htl hb hk
  · exact does_arm11 w hB h kind nn torn name tto u bb hu r0 r4 r5 hm hnl htl hb hk
  · exact does_arm12 w hB h kind nn torn name tto u bb hu r0 r4 r5 hm hnl htl hb hk
  · exact does_arm13 w hB h kind nn torn name tto u bb hu r0 r4 r5 hm hnl htl hb hk
  · exact does_arm14 w hB h kind nn torn name tto u bb hu r0 r4 r5 hm hnl htl hb hk
end Go.Proofs.Ytlejgdjkdbamkaa
