/-
  Len, Get, All of a table on a disk that nothing fails; Open of a name that is none. Conditions: the table lies there.
-/
import Derived.Test.YtblniomnhpedjaaGreatDoorF34TLog
namespace Go.Proofs.YtblniomnhpedjaaGreatDoor
open Go.RowKit
section
variable {B : Nat} {w w' : World} {F : Nat→Prop} {d g t b : Nat} {z : Nm} {S : Dk} {lp : List Af} {m M : Nat}
theorem tlen_calm (h : Bi B w F d g t b z S lp m M) : Calls Tryz.prog 30 #[.pointer (some ⟨t,0,none⟩)] w fun e w'=>e = .returned (.int .i64 lp.length)∧w'=w:=by
 obtain ⟨sure,h1⟩:=h.tab
 exact tlen_any h1
theorem tall_calm (h : Bi B w F d g t b z S lp m M) (pre : Bs) (hp : pre.length≤4611686018427387904) :
  Calls Tryz.prog 32 #[.pointer (some ⟨t,0,none⟩), .string (Ad pre)] w fun e w'=>∃ v,e = .returned v∧PrT w' v (lp.filter fun p=>pre.isPrefixOf p.1)∧Below w.heap.size w w':=by
 obtain ⟨sure,h1⟩:=h.tab
 obtain ⟨hf,he,-⟩:=h.fit
 have hfl:=En hf
 refine (tall_any h1 pre hp (fun p hq=>by have:=he p hq; unfold okP at this; omega) (by omega)).mono ?_
 rintro e w' ⟨v,rfl,h2,h3⟩
 exact ⟨v,rfl,h2.pr,h3⟩
theorem filter_nil (l : List Af) : l.filter (fun p=>([] : Bs).isPrefixOf p.1)=l:=L4 l
end
set_option maxRecDepth 20000 in
theorem topen_bad (w : World) (d : Nat) (n : Nm) (hn : B8 n=false) : Calls Tryz.prog 14 #[.pointer (some ⟨d,0,none⟩), .string (Ad n)] w fun e w'=>e = .returned (.tuple #[.pointer none, .int .i64 130])∧w'=w:=by
 have ho:=open_bad w d n hn
 have ha : Calls Tryz.prog 39 #[.int .i64 50] w fun x w'=>x = .returned (.int .i64 130)∧w'=w:=Ht w 50
 go_enter Tryz.func14,Tryz.ntmps14
 go_wp2_with fail
 refine ho.mono ?_
 rintro e w1 ⟨rfl,rfl⟩
 go_wp2_with fail
 refine ha.mono ?_
 rintro e w2 ⟨rfl,rfl⟩
 go_wp2
 go_ret2
 exact ⟨rfl,rfl⟩
end Go.Proofs.YtblniomnhpedjaaGreatDoor
