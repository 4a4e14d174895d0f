/-
  What laying numbers' bytes answers: putWord, bytesOf, ending. Conditions: none but room, which the callers have.
-/
import Derived.Test.YtdbmngbinhemeabDoorCHMixed
import Derived.Lib.AppendStr
import Derived.Laws.IdiomStrings
namespace Go.Proofs.YtdbmngbinhemeabDoor
open Go.RowKit

theorem byte_u (n : UInt32) (k : UInt32) (j : Nat) (hj : k.toNat = j) (h : j < 32) : u n / 2 ^ j % 256 = (((n >>> k).toUInt8).toNat : Int) := by
  rw [u_shr n k j hj h]
  unfold u
  rw [UInt32.toNat_toUInt8]
  omega
theorem byte24 (n : UInt32) : u n / (16777216 : Int) % (256 : Int) = (((n >>> 24).toUInt8).toNat : Int) := byte_u n 24 24 rfl (by omega)
theorem byte16 (n : UInt32) : u n / (65536 : Int) % (256 : Int) = (((n >>> 16).toUInt8).toNat : Int) := byte_u n 16 16 rfl (by omega)
theorem byte8 (n : UInt32) : u n / (256 : Int) % (256 : Int) = (((n >>> 8).toUInt8).toNat : Int) := byte_u n 8 8 rfl (by omega)
theorem byte0 (n : UInt32) : u n % (256 : Int) = ((n.toUInt8).toNat : Int) := by
  unfold u
  rw [UInt32.toNat_toUInt8]
  omega

set_option maxRecDepth 20000 in
set_option maxHeartbeats 400000 in
theorem putWord_any (w : World) (base g cap : Nat) (l : List UInt8) (n : UInt32) (hbase : base ≤ w.heap.size)
    (hown : w.ownsRow base 5 1 (.slice (some ⟨g, 0, none⟩) l.length cap) l.length (bc l)) (hfit : l.length + 4 ≤ cap) :
    Calls Tryd.prog 144 #[.slice (some ⟨g, 0, none⟩) l.length cap, .int .u32 (u n)] w fun e w' => e = .returned (.slice (some ⟨g, 0, none⟩) (l.length + 4) cap) ∧
      w'.ownsRow base 5 1 (.slice (some ⟨g, 0, none⟩) (l.length + 4) cap) (l.length + 4) (bc (l ++ be4 n)) ∧ Below base w w' := by
  obtain ⟨i0, hi, hz0, hz1, hz2⟩ := info_parts Tryd.infoB
  have hg : base ≤ g := (hown.lt g rfl).1
  have h24 := byte24
  have h16 := byte16
  have h8 := byte8
  have h0 := byte0
  go_enter Tryd.func144, Tryd.ntmps144
  go_wp2_with (at_builtin; refine wpList_append_fits _ rfl (.tmp 5) (.tmp 17) 71 rfl base 5 i0 1 Tryd.underlying71 hi hz1 g l.length cap (bc l) rfl (hown.alloc _) ⟨w.heap.size, 0, none⟩ 4 4 (bc (be4 n)) rfl rfl ?c1 (bc_one _) hfit ?_)
  case c1 =>
    intro j x hj
    match j, hj with
    | 0, hj => simp [bc, be4] at hj; subst hj; simp [Addr.add_lit]
    | 1, hj => simp [bc, be4] at hj; subst hj; simp [Addr.add_lit]
    | 2, hj => simp [bc, be4] at hj; subst hj; simp [Addr.add_lit]
    | 3, hj => simp [bc, be4] at hj; subst hj; simp [Addr.add_lit]
  intro w2 hown2 hgrow2
  have hb2 : Below base w w2 := ((Below.refl _ _).alloc hbase _).grown hgrow2 (by simp; omega) (by intro k hk; injection hk with hk; omega)
  rw [← bc_append] at hown2
  clear hgrow2 hown
  go_wp2
  go_ret
  exact ⟨rfl, hown2, hb2⟩
end Go.Proofs.YtdbmngbinhemeabDoor
