/-
  What the statements' frames share: the table out of the row's list, what came in out of its reading. No condition.
-/
import Derived.Test.YtblniomnhpedjaaGreatDoorCards
import Derived.Test.YtblniomnhpedjaaGreatDoorTie
import Derived.Test.YtblniomnhpedjaaGreatDoorP17WCrc
import Derived.OpenShut
import Derived.ShutString
import Derived.ChangeOld
import Derived.SizedLaws
import Derived.Deep.DeepHandedRow
import Derived.Lib.LaidTab
import Derived.Deep.Slices
namespace Go.Proofs.YtblniomnhpedjaaGreatDoor
open Go.ChangeShapes Go.WideShapes Go.ChangeAt Go.RowKit
theorem own : ownKnob Tryz.prog.godebug=none:=by kernel_rfl
theorem laidOut : laidOutB Tryz.prog=true:=by kernel_rfl
theorem gTab : Tryz.prog.globalNamed "tussock/wire.crcSteps" = some 0:=by kernel_rfl
theorem gTabType : (Tryz.prog.globals[0]?).map (·.type)=some 231:=by kernel_rfl
theorem cellsTab : Tryz.prog.cellsOf 231=16:=by kernel_rfl
theorem cellsU : Tryz.prog.cellsOf 182=1:=by kernel_rfl
theorem Mn {w : World} {p : Addr} {v : Value} (h : w.cell? p=some v) : p.block<w.heap.size:=by
 rcases Nat.lt_or_ge p.block w.heap.size with h1 | h1
 ·exact h1
 ·unfold World.cell? at h
  rw [Array.getElem?_eq_none h1] at h
  simp at h
theorem table {W : World} (h : laidMetH Tryz.prog [("tussock/wire.crcSteps",Rows.laid_tussock_wire_crcSteps)] W) :
  Lib.TabIs Tryz.prog W "tussock/wire.crcSteps" .u32 [0,498536548,997073096,651767980,1994146192,1802195444,1303535960,1342533948,3988292384,4027552580,3604390888,3412177804,2607071920,2262029012,2685067896,3183342108]:=
 Lib.tabIs_of_head (rest:=[]) gTab gTabType Tryz.underlying231 Tryz.underlying182 cellsU cellsTab h
theorem tabW {W : World} (h : laidMetH Tryz.prog [("tussock/wire.crcSteps",Rows.laid_tussock_wire_crcSteps)] W) : Bm W:=by
 have hc : ∀ j,j<16→W.cell? ⟨0,j,none⟩=some (.int .u32 ((tabL.getD j 0 : Nat) : Int)):=by
  intro j hj
  rw [(table h).cell gTab j (by simpa using hj)]
  have : ∀ j : Fin 16,([0,498536548,997073096,651767980,1994146192,1802195444,1303535960,1342533948,3988292384,4027552580,3604390888,3412177804,2607071920,2262029012,2685067896,3183342108] : List Int).getD j.val 0=((tabL.getD j.val 0 : Nat) : Int):=by decide +kernel
  rw [this ⟨j,hj⟩]
 exact ⟨Mn (hc 0 (by omega)),hc⟩
end Go.Proofs.YtblniomnhpedjaaGreatDoor
