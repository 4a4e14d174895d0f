/-
  Texts joined: OEntry2, OEntry3, OChunk, ORPut, ORChunk, ORFan, ORFan2, ORBegun, ORTake, ORTakeF, ORText.
-/
import Derived.Test.YtckejblkppllaaaGreatDoorT11OReader
import Derived.Test.YtckejblkppllaaaGreatDoorT9OTop2
import Derived.Test.YtckejblkppllaaaGreatDoorT5HRefSum
namespace Go.Proofs.YtckejblkppllaaaGreatDoor
open Go.RowKit
variable {N : Nat}
theorem Gr (w : World) (l : List UInt8) (kd : IntKind) (k : Nat) (h : k<l.length) : (Instr.index 9 (.string (Ab l)) (.int kd (k : Int))).run Tryz.prog w = .ok (.int .u8 ((l[k]'h).toNat : Int)) w:=by
 have a1 : (0 : Int)≤(k : Int):=by omega
 have h1 : (Ab l)[k]? = some (l[k]'h):=by
  have hs : k<(Ab l).size:=by rw [A1]; exact h
  rw [getElem?_pos (Ab l) k hs]
  rfl
 unfold Instr.index
 simp only [asIntOf,Sem.run_bind,Sem.run_pure,Result.andThen_ok,run_underlying Tryz.underlying9 w]
 rw [if_pos a1,Int.toNat_natCast,h1]
 rfl
theorem Kh {l : List UInt8} {k : Nat} (hk : k<l.length) (h : l[k]=47∨l[k]=0) : Pt.name l=false:=by
 have hm:=List.getElem_mem hk
 unfold Pt.name
 refine decide_eq_false ?_
 rintro ⟨_,_,_,_,h1,h2⟩
 rcases h with h | h
 ·exact h1 (h ▸ hm)
 ·exact h2 (h ▸ hm)
theorem Kv {l : List UInt8} (h1 : 1≤l.length) (h2 : l.length≤64) (h3 : l ≠ [46]) (h4 : l ≠ [46,46]) (h : ∀ j (hj : j<l.length),l[j]≠47∧l[j]≠0) : Pt.name l=true:=by
 unfold Pt.name
 refine decide_eq_true ⟨h1,h2,h3,h4,fun hm=>?_,fun hm=>?_⟩
 ·obtain ⟨j,hj,e⟩:=List.getElem_of_mem hm
  exact (h j hj).1 e
 ·obtain ⟨j,hj,e⟩:=List.getElem_of_mem hm
  exact (h j hj).2 e
theorem Fd (w : World) (s : Bs) : Calls Tryz.prog 104 #[.string (Ab s)] w fun e w'=>e = .returned (.bool (Ci s))∧w'=w:=by
 have hs:=A1 s
 go_enter Tryz.func104,Tryz.ntmps104
 go_wp2
 go_ret
 refine ⟨Al ?_,rfl⟩
 unfold Ci
 (try rw [Bool.eq_iff_iff]); simp <;> omega
theorem rnumber_any (w : World) (n : Int) (h : Cg n) : Calls Tryz.prog 67 #[.int .i64 n] w fun e w'=>∃ v,e = .returned v∧w'.ownsRow w.heap.size 5 1 v (num n).length (bc (num n))∧Below w.heap.size w w':=by
 go_enter Tryz.func67,Tryz.ntmps67
 go_wp2_with fail
 refine (Id w n h.1 h.2).mono ?_
 rintro e w1 ⟨v,rfl,hown,hb⟩
 have HO:=Ac hown
 obtain ⟨a,c,rfl,-⟩:=Bj hown
 clear hown
 go_wp2
 go_ret
 exact ⟨_,rfl,HO.out,hb⟩
def entryV (ok : Bool) (v : Val) : Value:=if ok then .tuple #[.string (Ab (valB v)), .int .i64 0] else .tuple #[.string (Ab []), .int .i64 80]
theorem Ie {name : Bs} {v : Val} (h : Ck name v=true) : Cg v.1∧Cg v.2.2∧v.2.1.length=32:=by
 unfold Ck valOk at h
 simp only [Bool.and_eq_true,Ci,decide_eq_true_eq] at h
 obtain ⟨_,h1,h2⟩:=h
 unfold Ew at h2
 unfold Cg
 split at h2
 ·rename_i h3
  simp only [decide_eq_true_eq] at h2
  exact ⟨by omega,by omega,h1⟩
 ·split at h2
  ·rename_i h3
   simp only [decide_eq_true_eq] at h2
   exact ⟨by omega,by omega,h1⟩
  ·cases h2
end Go.Proofs.YtckejblkppllaaaGreatDoor
namespace Go.Proofs.YtckejblkppllaaaGreatDoor
open Go.RowKit
theorem entryV_yes (v : Val) : entryV true v = .tuple #[.string (Ab (valB v)), .int .i64 0]:=rfl
theorem entryV_no (v : Val) : entryV false v = .tuple #[.string (Ab []), .int .i64 80]:=rfl
end Go.Proofs.YtckejblkppllaaaGreatDoor
namespace Go.Proofs.YtckejblkppllaaaGreatDoor
open Go.RowKit
end Go.Proofs.YtckejblkppllaaaGreatDoor
namespace Go.Proofs.YtckejblkppllaaaGreatDoor
open Go.RowKit
set_option maxRecDepth 20000 in
set_option maxHeartbeats 800000 in
theorem rof_any (w : World) (l : Bs) (hl : l.length≤1048576) :
  Calls Tryz.prog 114 #[.string (Ab l)] w fun e w'=>e = .returned (objV l)∧Below w.heap.size w w':=by
 rw [G0]
 have hls:=A1 l
 have hb0 : Below w.heap.size w (w.alloc (.cells #[.string ⟨#[]⟩, .string ⟨#[]⟩] 38)):=(Below.refl _ _).alloc (Nat.le_refl _) _
 have hx0:=heap_last w (.cells #[.string ⟨#[]⟩, .string ⟨#[]⟩] 38) _ rfl
 have hsum:=fun W v h=>refSum_any W v l h hl
 generalize sha l=S at *
 have HSU:=Ac hsum
 clear hsum
 go_enter Tryz.func114,Tryz.ntmps114
 go_wp2_with (refine G5 _ rfl (.tmp 3) rfl (Ab l) (by rw [A1]; unfold maxLen; omega) rfl ?_; intro v2 w2 hsl2 hb2 _; rw [B0] at hsl2; have HS:=Ac hsl2; have HB:=Ac hb2; obtain ⟨ao,cap,rfl,-⟩:=hsl2; clear hb2)
 have x2:=(HB.out.block _ (Ad hx0)).trans hx0
 have B2:=hb0.trans (HB.out.mono hb0.size)
 clear HB
 go_wp2_with fail
 refine (HSU.out _ _ HS.out).mono ?_
 rintro e w3 ⟨g,k,rfl,sl3,hb3⟩
 have x3:=(hb3.block _ (Ad x2)).trans x2
 have B3:=B2.trans (hb3.mono B2.size)
 have hcv:=G7 sl3 w3 (Below.refl _ _)
 have c0:=rc (i:=0) x3 rfl
 have c1:=rc (i:=1) x3 rfl
 have f0:=Af (j:=0) x3
 have f1:=Af (j:=1) x3
 clear HSU HS hb3 x2 B2 hb0 hx0 sl3
 go_wp2
 refine bodyPost_ret (results_cell_row rfl _ _ _ _ _ _ _ rfl (Cm x3) Tryz.underlying38 rfl Tryz.infoObj) rfl ⟨rfl,?_⟩
 exact (B3.setCell (p:=⟨w.heap.size,0,none⟩) (by simp) _).setCell (p:=⟨w.heap.size,1,none⟩) (by simp) _
theorem made_yes' (b : Bs) : made true b = .tuple #[.agg #[.string (Ab (sha b)), .string (Ab b)], .int .i64 0]:=rfl
theorem Ih (b : Bs) : made false b = .tuple #[.agg #[.string ⟨#[]⟩, .string ⟨#[]⟩], .int .i64 80]:=rfl
set_option maxRecDepth 20000 in
set_option maxHeartbeats 800000 in
theorem rput_any (w : World) (v : Value) (l : Bs) (ok : Bool) (h : Sl w v l) (hl : ok=true→l.length≤1048576) :
  Calls Tryz.prog 69 #[v, .bool ok] w fun e w'=>e = .returned (made ok l)∧Below w.heap.size w w':=by
 have hb0 : Below w.heap.size w (w.alloc (.cells #[.string ⟨#[]⟩, .string ⟨#[]⟩] 38)):=(Below.refl _ _).alloc (Nat.le_refl _) _
 have hx0:=heap_last w (.cells #[.string ⟨#[]⟩, .string ⟨#[]⟩] 38) _ rfl
 have hcv:=G7 h _ hb0
 obtain ⟨ao,cap,rfl,-⟩:=h
 cases ok with
 | false=>
  rw [Ih]
  have c0:=rc (i:=0) hx0 rfl
  have c1:=rc (i:=1) hx0 rfl
  have f0:=Af (j:=0) hx0
  have f1:=Af (j:=1) hx0
  go_enter Tryz.func69,Tryz.ntmps69
  go_wp2
  refine bodyPost_ret (Aq rfl _ _ _ _ #[.string ⟨#[]⟩, .string ⟨#[]⟩] _ _ rfl (by first | exact hx0 | exact Cm hx0) Tryz.underlying38 rfl Tryz.infoObj) rfl ⟨rfl,?_⟩
  first | exact hb0 | exact (hb0.setCell (p:=⟨w.heap.size,0,none⟩) (by simp) _).setCell (p:=⟨w.heap.size,1,none⟩) (by simp) _
 | true=>
  rw [made_yes']
  have hof:=fun W=>rof_any W l (hl rfl)
  rw [G0] at hof
  generalize sha l=S at *
  go_enter Tryz.func69,Tryz.ntmps69
  go_wp2_with fail
  refine (hof _).mono ?_
  rintro e w3 ⟨rfl,hb3⟩
  have x3:=(hb3.block _ (Ad hx0)).trans hx0
  have B3:=hb0.trans (hb3.mono hb0.size)
  have c0:=rc (i:=0) x3 rfl
  have c1:=rc (i:=1) x3 rfl
  have f0:=Af (j:=0) x3
  have f1:=Af (j:=1) x3
  clear hof hb3 hb0 hx0
  go_wp2
  refine bodyPost_ret (Aq rfl _ _ _ _ _ _ _ rfl (Cm x3) Tryz.underlying38 rfl Tryz.infoObj) rfl ⟨rfl,?_⟩
  exact (B3.setCell (p:=⟨w.heap.size,0,none⟩) (by simp) _).setCell (p:=⟨w.heap.size,1,none⟩) (by simp) _
end Go.Proofs.YtckejblkppllaaaGreatDoor
namespace Go.Proofs.YtckejblkppllaaaGreatDoor
open Go.RowKit
theorem own_one (w : World) (c : UInt8) : (w.alloc (.cells #[.int .u8 (c.toNat : Int)] 5)).ownsRow w.heap.size 5 1 (.slice (some ⟨w.heap.size,0,none⟩) 1 1) 1 (bc [c]):=
 ⟨rfl, .inr ⟨_,1,_,rfl,Nat.le_refl _,heap_last w _ _ rfl,Nat.le_refl _,by decide,rfl,rfl⟩⟩
theorem made_form (q : Bool) (b : Bs) : ∃ x y k,made q b = .tuple #[.agg #[.string (Ab x), .string (Ab y)], .int .i64 k]:=by
 cases q
 ·exact ⟨[],[],80,Ih b⟩
 ·exact ⟨_,b,0,made_yes' b⟩
end Go.Proofs.YtckejblkppllaaaGreatDoor
namespace Go.Proofs.YtckejblkppllaaaGreatDoor
open Go.RowKit
theorem sum_ge {xs : List Int} (h : ∀ x∈xs,1≤x) : ∀ x∈xs,x≤xs.sum:=by
 induction xs with
 | nil=>intro x hx; simp at hx
 | cons y ys ih=>
  have h1:=ih (fun x hx=>h x (by simp [hx]))
  have hy:=h y (by simp)
  have h0 : ∀ zs : List Int,(∀ x∈zs,1≤x)→0≤zs.sum:=by
   intro zs
   induction zs with
   | nil=>intro _; simp
   | cons z zs ih2=>intro g; have g1:=ih2 (fun x hx=>g x (by simp [hx])); have g2:=g z (by simp); simp; omega
  have h2:=h0 ys (fun x hx=>h x (by simp [hx]))
  intro x hx
  rw [List.sum_cons]
  rcases List.mem_cons.1 hx with rfl | hx
  ·omega
  ·have:=h1 x hx; omega
theorem within_alike (xs : List Int) (m : Int) (hm : 0≤m) : D6 xs m=(xs.all (fun n=>decide (1≤n) && decide (n≤m)) && decide (xs.sum≤m)):=by
 rw [Bool.eq_iff_iff,Mr xs m hm]
 simp only [Bool.and_eq_true,List.all_eq_true,decide_eq_true_eq]
 constructor
 ·rintro ⟨h1,h2⟩
  exact ⟨fun x hx=>⟨h1 x hx,by have:=sum_ge h1 x hx; omega⟩,h2⟩
 ·rintro ⟨h1,h2⟩
  exact ⟨fun x hx=>(h1 x hx).1,h2⟩
end Go.Proofs.YtckejblkppllaaaGreatDoor
namespace Go.Proofs.YtckejblkppllaaaGreatDoor
open Go.RowKit
def Ow (B : Nat) (w : World) (v : Value) (l : Bs) : Prop:=w.ownsRow B 5 1 v l.length (bc l)
theorem Ow.sl {B : Nat} {w : World} {v : Value} {l : Bs} (h : Ow B w v l) : Sl w v l:=Ge h
theorem Ow.keep {B : Nat} {w w' : World} {v : Value} {l : Bs} (h : Ow B w v l) (hb : Below w.heap.size w w') : Ow B w' v l:=
 World.ownsRow.kept (row:=none) h ⟨hb.os,hb.tape,hb.output,hb.size,fun k hk _=>hb.block k hk⟩ (by cases hq : v.ownBlock with | none=>exact .inl rfl | some k=>exact .inr (by simp))
theorem Ow.app {B B' : Nat} {w : World} {v u : Value} {l m : Bs} (h : Ow B w v l) (k : Ow B' w u m) (hm : 1≤m.length) (hsz : l.length+m.length≤140737488355328) (hB : B≤w.heap.size) :
  ∃ v' w',(Builtin.append_ #[137,137] 137 #[v,u]).run Tryz.prog w = .ok v' w'∧Ow B w' v' (l++m)∧Below B w w':=by
 obtain ⟨i0,hi,hz0,hz1,hz2⟩:=info_parts Tryz.infoB
 have hk2:=k.2
 rcases hk2 with ⟨rfl,h0⟩ | ⟨g4,cap4,cur4,rfl,-,-,-,-,-,-⟩
 ·omega
 obtain ⟨v5,w5,hrun5,own5,hgr5,-⟩:=run_append_own (P:=Tryz.prog) w B 137 137 5 i0 (.int .u8 0) 1 1 Tryz.underlying137 hi hz0 hz1 hz2 rfl (by decide) v l.length (bc l) h ⟨g4,0,none⟩ m.length cap4 (bc m) (by rw [Di]; omega) (World.ownsRow.cells k (g:=g4) rfl) (Dn _) (by unfold maxLen; omega) (by omega) hB
 rw [← Dm,← List.length_append] at own5
 exact ⟨v5,w5,hrun5,own5,(Below.refl _ _).grown hgr5 hB (fun q hq=>(World.ownsRow.lt h q hq).1)⟩
theorem Ow.form {B : Nat} {w : World} {v : Value} {l : Bs} (h : Ow B w v l) : ∃ a n c,v = .slice a n c:=by
 obtain ⟨a,c,h1,-⟩:=Bj h
 exact ⟨a,_,c,h1⟩
theorem rnum_any (w : World) (n : Int) (h : Cg n) : Calls Tryz.prog 67 #[.int .i64 n] w fun e w'=>∃ v,e = .returned v∧Ow w.heap.size w' v (num n)∧Below w.heap.size w w':=rnumber_any w n h
theorem ow_one (w : World) (c : UInt8) : Ow w.heap.size (w.alloc (.cells #[.int .u8 (c.toNat : Int)] 5)) (.slice (some ⟨w.heap.size,0,none⟩) 1 1) [c]:=own_one w c
end Go.Proofs.YtckejblkppllaaaGreatDoor
namespace Go.Proofs.YtckejblkppllaaaGreatDoor
open Go.RowKit
variable {N : Nat}
def D7 (c : UInt8) (b : Bs) : Pos:=if b.head? = some c then some 1 else none
theorem bool_neq (x c : UInt8) : (((x.toNat : Nat) : Int)=((c.toNat : Nat) : Int))↔x=c:=by
 constructor
 ·intro h
  have : x.toNat=c.toNat:=by omega
  exact UInt8.toNat.inj this
 ·intro h; rw [h]
set_option maxRecDepth 20000 in
set_option maxHeartbeats 800000 in
theorem L4 (w : World) (b : Bs) (c : UInt8) (hb : b.length≤140737488351232) :
  Calls Tryz.prog 146 #[.string (Ab b), .int .u8 (c.toNat : Int)] w fun e w'=>∃ g,e = .returned (.pointer (some ⟨g,0,none⟩))∧Rr w.heap.size w' g b (D7 c b)∧w.heap.size≤g∧Below w.heap.size w w':=by
 have hs:=A1 b
 have HV:=Ac hb
 cases b with
 | nil=>
  have hr : D7 c []=none:=rfl
  rw [hr]
  go_enter Tryz.func146,Tryz.ntmps146
  go_wp2_with (refine G5 _ rfl (.tmp 5) rfl (Ab []) (by rw [A1]; unfold maxLen; have:=HV.out; omega) rfl ?_; intro v2 w2 hsl2 hb2 hbk2; rw [B0] at hsl2; have HS:=Ac hsl2; have HBK:=Ac hbk2; clear hbk2; have HB:=Ac hb2; obtain ⟨ao,cap,rfl,-⟩:=hsl2; clear hb2)
  go_wp2
  go_ret
  refine ⟨_,rfl,⟨_,1,heap_last w2 _ _ rfl,fun w' hu=>HS.out.und HBK.out ⟨Nat.le_trans (by simp) hu.1,fun k hN hk=>(hu.2 k hN hk).trans (heap_past w2 _ k hk)⟩,fun a ha=>by cases ha⟩,HB.out.size,HB.out.alloc HB.out.size _⟩
 | cons x r=>
  have hix : ∀ W,(Instr.index 9 (.string (Ab (x :: r))) (.int .i64 0)).run Tryz.prog W = .ok (.int .u8 (x.toNat : Int)) W:=fun W=>Gr W (x :: r) .i64 0 (by simp)
  by_cases hx : x=c
  ·subst hx
   have hr : D7 x (x :: r)=some 1:=by unfold D7; simp
   rw [hr]
   have hpos : 1≤(x :: r).length:=by simp
   generalize (x :: r)=l at *
   have hz : ((l.length : Int) == 0)=false:=by rw [beq_eq_false_iff_ne]; omega
   go_enter Tryz.func146,Tryz.ntmps146
   go_wp2_with (refine G5 _ rfl (.tmp 5) rfl (Ab l) (by rw [A1]; unfold maxLen; have:=HV.out; omega) rfl ?_; intro v2 w2 hsl2 hb2 hbk2; rw [B0] at hsl2; have HS:=Ac hsl2; have HBK:=Ac hbk2; clear hbk2; have HB:=Ac hb2; obtain ⟨ao,cap,rfl,-⟩:=hsl2; clear hb2)
   go_wp2
   try simp only [hz,Bool.false_or,bne_self_eq_false]
   go_ret
   refine ⟨_,rfl,⟨_,1,heap_last w2 _ _ rfl,fun w' hu=>HS.out.und HBK.out ⟨Nat.le_trans (by simp) hu.1,fun k hN hk=>(hu.2 k hN hk).trans (heap_past w2 _ k hk)⟩,fun a ha=>by injection ha with ha; subst ha; exact ⟨rfl,by omega⟩⟩,HB.out.size,HB.out.alloc HB.out.size _⟩
  ·have hr : D7 c (x :: r)=none:=by unfold D7; simp [hx]
   rw [hr]
   have hne : ¬ (((x.toNat : Nat) : Int)=((c.toNat : Nat) : Int)):=fun h=>hx ((bool_neq x c).1 h)
   have hxc : (((x.toNat : Nat) : Int) != ((c.toNat : Nat) : Int))=true:=by simpa using hne
   have hpos : 1≤(x :: r).length:=by simp
   generalize (x :: r)=l at *
   have hz : ((l.length : Int) == 0)=false:=by rw [beq_eq_false_iff_ne]; omega
   go_enter Tryz.func146,Tryz.ntmps146
   go_wp2_with (refine G5 _ rfl (.tmp 5) rfl (Ab l) (by rw [A1]; unfold maxLen; have:=HV.out; omega) rfl ?_; intro v2 w2 hsl2 hb2 hbk2; rw [B0] at hsl2; have HS:=Ac hsl2; have HBK:=Ac hbk2; clear hbk2; have HB:=Ac hb2; obtain ⟨ao,cap,rfl,-⟩:=hsl2; clear hb2)
   go_wp2
   try simp only [hz,hxc,Bool.false_or]
   go_ret
   refine ⟨_,rfl,⟨_,1,heap_last w2 _ _ rfl,fun w' hu=>HS.out.und HBK.out ⟨Nat.le_trans (by simp) hu.1,fun k hN hk=>(hu.2 k hN hk).trans (heap_past w2 _ k hk)⟩,fun a ha=>by cases ha⟩,HB.out.size,HB.out.alloc HB.out.size _⟩
set_option maxRecDepth 20000 in
theorem N0 (w : World) (g : Nat) (l : Bs) (s : Pos) (most : Int) (h : Rr N w g l s) (hl : l.length≤140737488351232) :
  Calls Tryz.prog 147 #[.pointer (some ⟨g,0,none⟩), .int .i64 most] w fun e w'=>e = .returned (.int .i64 (rC l most s).1)∧Rr N w' g l (rC l most s).2∧w.grownBy w' (some g):=by
 have hT:=Ho w g l s h hl
 unfold rC
 obtain ⟨n,q,hn⟩ : ∃ n q,rI l s=(n,q):=⟨_,_,rfl⟩
 rw [hn] at hT ⊢
 simp only at hT ⊢
 by_cases h1 : n<0
 ·rw [if_pos (.inl h1)]
  simp only
  go_enter Tryz.func147,Tryz.ntmps147
  go_wp2_with fail
  refine hT.mono ?_
  rintro e w1 ⟨rfl,R1,gb1⟩
  obtain ⟨v,p,h5,h6,h7⟩:=R1
  have d2:=rc (i:=2) h5 rfl
  have f2:=Af (j:=2) h5
  have hlt:=Ad h5
  go_wp2
  go_ret
  exact ⟨rfl,⟨v,p,F6 h5,fun w' hu=>h6 w' (D1 (C5 hlt (Ar w1 g 2 (.bool true))) hu),fun a ha=>by cases ha⟩,A7 gb1 (Ar w1 g 2 (.bool true))⟩
 ·by_cases h2 : most<n
  ·rw [if_pos (.inr h2)]
   simp only
   go_enter Tryz.func147,Tryz.ntmps147
   go_wp2_with fail
   refine hT.mono ?_
   rintro e w1 ⟨rfl,R1,gb1⟩
   obtain ⟨v,p,h5,h6,h7⟩:=R1
   have d2:=rc (i:=2) h5 rfl
   have f2:=Af (j:=2) h5
   have hlt:=Ad h5
   go_wp2
   go_ret
   exact ⟨rfl,⟨v,p,F6 h5,fun w' hu=>h6 w' (D1 (C5 hlt (Ar w1 g 2 (.bool true))) hu),fun a ha=>by cases ha⟩,A7 gb1 (Ar w1 g 2 (.bool true))⟩
  ·rw [if_neg (by omega)]
   simp only
   go_enter Tryz.func147,Tryz.ntmps147
   go_wp2_with fail
   refine hT.mono ?_
   rintro e w1 ⟨rfl,R1,gb1⟩
   go_wp2
   go_ret
   exact ⟨rfl,R1,gb1⟩
end Go.Proofs.YtckejblkppllaaaGreatDoor
namespace Go.Proofs.YtckejblkppllaaaGreatDoor
open Go.RowKit
variable {N : Nat}
theorem Rr.grown {a b : World} {g : Nat} {l : Bs} {s : Pos} {row : Option Nat} (h : Rr N a g l s) (k : a.grownBy b row) (hrow : ∀ q,row=some q→g<q) : Rr N b g l s:=by
 have hl:=h.lt
 obtain ⟨v,p,h1,h2,h3⟩:=h
 exact ⟨v,p,(k.block g hl (fun e=>by have:=hrow g e.symm; omega)).trans h1,fun w' hu=>h2 w' (D1 ⟨k.size,fun j _ hj=>k.block j (by omega) (fun e=>by have:=hrow j e.symm; omega)⟩ hu),h3⟩
theorem Rr.heap {w : World} {g : Nat} {l : Bs} {s : Pos} (h : Rr N w g l s) : ∃ cs,w.heap[g]? = some (.cells cs 139):=by
 obtain ⟨v,p,h1,_⟩:=h
 exact ⟨_,h1⟩
theorem Rr.bad {w : World} {g : Nat} {l : Bs} {s : Pos} (h : Rr N w g l s) : w.cell? ⟨g,2,none⟩=some (.bool s.isNone):=by
 obtain ⟨v,p,h1,_⟩:=h
 exact rc (i:=2) h1 rfl
def Gs {α : Type} (m : UInt8) (one : Bs→Pos→α × Pos) (right : α→Bool) (b : Bs) : Option α:=
 if (one b (D7 m b)).2=some b.length∧right (one b (D7 m b)).1=true then some (one b (D7 m b)).1 else none
theorem Nn {α : Type} {m : UInt8} {one : Bs→Pos→α × Pos} {right : α→Bool} {b : Bs} {enc : α→Bs} {ok : α→Prop} (h : Fm b (one b) enc ok) (hr : ∀ x,right x=true→ok x) (x : α) :
  Gs m one right b=some x↔right x=true∧b=m :: enc x:=by
 unfold Gs
 cases b with
 | nil=>
  have e : D7 m []=none:=rfl
  rw [e]
  constructor
  ·intro h1
   rw [h.stop] at h1
   simp at h1
  ·rintro ⟨_,h1⟩
   cases h1
 | cons c l=>
  by_cases hc : c=m
  ·subst hc
   have e : D7 c (c :: l)=some 1:=by unfold D7; simp
   rw [e]
   constructor
   ·intro h1
    split at h1
    ·rename_i g
     injection h1 with h1
     subst h1
     refine ⟨g.2,?_⟩
     have s:=(h.sound 1 _ (by simp) g.1).1.1
     rw [show (c :: l).drop (c :: l).length = [] from by simp,List.append_nil] at s
     simpa using s
    ·cases h1
   ·rintro ⟨h1,h2⟩
    injection h2 with _ h2
    have s : Cs (c :: l) 1 (c :: l).length (enc x):=⟨by simp [h2],by simp [h2]; omega,Nat.le_refl _⟩
    have e2:=h.put 1 _ x (hr x h1) s
    rw [if_pos (by rw [e2]; exact ⟨rfl,h1⟩),e2]
  ·have e : D7 m (c :: l)=none:=by unfold D7; simp [hc]
   rw [e]
   constructor
   ·intro h1
    rw [h.stop] at h1
    simp at h1
   ·rintro ⟨_,h1⟩
    injection h1 with h1 _
    exact absurd h1 hc
end Go.Proofs.YtckejblkppllaaaGreatDoor
namespace Go.Proofs.YtckejblkppllaaaGreatDoor
open Go.RowKit
theorem Dh {w : World} {B B' k n : Nat} {e : TypeId} {v : Value} {xs : List Value} (h : w.ownsRow B e k v n xs) (hle : B'≤B) : w.ownsRow B' e k v n xs:=by
 refine ⟨h.1,?_⟩
 rcases h.2 with h | ⟨g,cap,cur,h1,h2,h3⟩
 ·exact .inl h
 ·exact .inr ⟨g,cap,cur,h1,Nat.le_trans hle h2,h3⟩
theorem rN_dead {α : Type} {one : Pos→α × Pos} (h : (one none).2=none) (s : Pos) (k : Nat) (hs : (rN one k s).2=none) : ∀ j,(rN one (k+j) s).2=none
 | 0=>hs
 | j+1=>by rw [← Nat.add_assoc,Hm]; simp only; rw [rN_dead h s k hs j,h]
theorem heap_set1 {w : World} {g : Nat} {v0 v1 u1 : Value} {t : TypeId} (h : w.heap[g]? = some (.cells #[v0,v1] t)) : (w.setCell ⟨g,1,none⟩ u1).heap[g]? = some (.cells #[v0,u1] t):=by
 rw [heap_setCell _ _ _ _ _ _ _ h]
 simp
end Go.Proofs.YtckejblkppllaaaGreatDoor
namespace Go.Proofs.YtckejblkppllaaaGreatDoor
open Go.RowKit
variable {N : Nat}
theorem rtext_any (w : World) (s : Bs) (h : s.length≤140737488355318) : Calls Tryz.prog 68 #[.string (Ab s)] w fun e w'=>∃ v,e = .returned v∧Ow w.heap.size w' v (txt s)∧Below w.heap.size w w':=by
 have hT:=refText_any w (Ab s) (by rw [A1]; exact h)
 rw [B0] at hT
 go_enter Tryz.func68,Tryz.ntmps68
 go_wp2_with fail
 refine hT.mono ?_
 rintro e w1 ⟨v,rfl,hown,hb⟩
 have HO:=Ac hown
 obtain ⟨a,c,rfl,-⟩:=Bj hown
 clear hown
 go_wp2
 go_ret
 exact ⟨_,rfl,HO.out,hb⟩
theorem Jg (t : Bs) : 1≤(txt t).length∧(txt t).length≤10+t.length:=by
 have:=El (t.length : Int)
 unfold txt
 rw [List.length_append]
 omega
set_option maxRecDepth 20000 in
theorem Kl (w : World) (g : Nat) (l : Bs) (s : Pos) (most : Int) (h : Rr N w g l s) (hl : l.length≤140737488351232) :
  Calls Tryz.prog 148 #[.pointer (some ⟨g,0,none⟩), .int .i64 most] w fun e w'=>e = .returned (.string (Ab (rT l most s).1))∧Rr N w' g l (rT l most s).2∧w.grownBy w' (some g):=by
 have hR:=h
 obtain ⟨v,p,h1,h2,h3⟩:=h
 have c0:=rc (i:=0) h1 rfl
 have c1:=rc (i:=1) h1 rfl
 have c2:=rc (i:=2) h1 rfl
 cases s with
 | none=>
  simp only [Option.isNone_none] at c2
  rw [show rT l most none=([],none) from rfl]
  go_enter Tryz.func148,Tryz.ntmps148
  go_wp2
  go_ret
  exact ⟨rfl,hR,gb_refl _ _⟩
 | some a=>
  simp only [Option.isNone_some] at c2 h1
  obtain ⟨rfl,ha⟩:=h3 a rfl
  have hs:=h2 w.drew (C5 (Ad h1) (C0 _ _))
  have hT:=refText_take w.drew v l a most hs hl
  have hd : w.drew.heap[g]? = some (.cells #[v, .int .i64 (a : Int), .bool false] 139):=h1
  have HD:=Ac hd
  have H2:=Ac h2
  have hlt:=Ad h1
  clear hd h2 hR h3 h1
  cases ht : Da l (a : Int) most with
  | none=>
   have hr : rT l most (some a)=([],none):=by simp only [rT]; rw [ht]
   rw [hr]
   rw [ht] at hT
   simp only [tkT] at hT
   clear ht hr
   go_enter Tryz.func148,Tryz.ntmps148
   go_wp2_with fail
   refine wp_region_held_drew (S:=fun W=>W.cell? ⟨g,0,none⟩=some v∧W.cell? ⟨g,1,none⟩=some (.int .i64 (a : Int))) (by kernel_rfl) (⟨c0,c1⟩) (fun hHeld=>?_)
   refine Aa 0 hHeld ?_
   refine Aa 1 hHeld ?_
   refine Aa 2 hHeld ?_
   refine Aa 3 hHeld ?_
   refine Aa 4 hHeld ?_
   refine Aa 5 hHeld ?_
   refine Aa 6 hHeld ?_
   refine Aa 7 hHeld ?_
   refine Aa 8 hHeld ?_
   refine Ai (i:=9) rfl (by kernel_rfl) rfl (fun K hK=>?_)
   go_simp
   refine hT.mono ?_
   rintro e w1 ⟨rfl,hb1⟩
   have h5:=(hb1.block g hlt).trans HD.out
   have d0:=rc (i:=0) h5 rfl
   have d1:=rc (i:=1) h5 rfl
   have d2:=rc (i:=2) h5 rfl
   have f2:=Af (j:=2) h5
   have h6:=F6 (u2:=.bool true) h5
   have f1:=Af (j:=1) h6
   have k1:=rc (i:=1) h6 rfl
   refine hK.out _ _ (⟨d0,d1⟩) (fun hHeld=>?_)
   clear hK K
   try simp only [Act.put,List.setIfInBounds_toArray,List.set_cons_zero,List.set_cons_succ]
   refine Aa 10 hHeld ?_
   refine Aa 11 hHeld ?_
   refine Aa 12 hHeld ?_
   refine Aa 13 hHeld ?_
   refine Aa 14 hHeld ?_
   refine Aa 15 hHeld ?_
   refine Aa 16 hHeld ?_
   refine wpAnyH_done (by kernel_rfl) ?_ _
   clear hHeld
   go_wp2
   go_ret
   have hg : w.grownBy w1 (some g):=A7 (C0 _ _) (Fu hb1)
   have hg2:=A7 (A7 hg (Ar w1 g 2 (.bool true))) (Ar _ g 1 (.int .i64 0))
   exact ⟨rfl,⟨v,_,Az h6,fun w' hu=>H2.out w' (D1 (C5 hlt hg2) hu),fun b hb=>by cases hb⟩,hg2⟩
  | some x=>
   obtain ⟨n,q⟩:=x
   have hr : rT l most (some a)=(n,some q):=by simp only [rT]; rw [ht]
   have hq:=(K6 ht).2.2.1
   rw [hr]
   rw [ht] at hT
   simp only [tkT] at hT
   clear ht hr
   go_enter Tryz.func148,Tryz.ntmps148
   go_wp2_with fail
   refine wp_region_held_drew (S:=fun W=>W.cell? ⟨g,0,none⟩=some v∧W.cell? ⟨g,1,none⟩=some (.int .i64 (a : Int))) (by kernel_rfl) (⟨c0,c1⟩) (fun hHeld=>?_)
   refine Aa 0 hHeld ?_
   refine Aa 1 hHeld ?_
   refine Aa 2 hHeld ?_
   refine Aa 3 hHeld ?_
   refine Aa 4 hHeld ?_
   refine Aa 5 hHeld ?_
   refine Aa 6 hHeld ?_
   refine Aa 7 hHeld ?_
   refine Aa 8 hHeld ?_
   refine Ai (i:=9) rfl (by kernel_rfl) rfl (fun K hK=>?_)
   go_simp
   refine hT.mono ?_
   rintro e w1 ⟨rfl,hb1⟩
   have h5:=(hb1.block g hlt).trans HD.out
   have d0:=rc (i:=0) h5 rfl
   have d1:=rc (i:=1) h5 rfl
   have d2:=rc (i:=2) h5 rfl
   have f2:=Af (j:=2) h5
   have h6:=F6 (u2:=.bool false) h5
   have f1:=Af (j:=1) h6
   have k1:=rc (i:=1) h6 rfl
   refine hK.out _ _ (⟨d0,d1⟩) (fun hHeld=>?_)
   clear hK K
   try simp only [Act.put,List.setIfInBounds_toArray,List.set_cons_zero,List.set_cons_succ]
   refine Aa 10 hHeld ?_
   refine Aa 11 hHeld ?_
   refine Aa 12 hHeld ?_
   refine Aa 13 hHeld ?_
   refine Aa 14 hHeld ?_
   refine Aa 15 hHeld ?_
   refine Aa 16 hHeld ?_
   refine wpAnyH_done (by kernel_rfl) ?_ _
   clear hHeld
   go_wp2
   go_ret
   have hg : w.grownBy w1 (some g):=A7 (C0 _ _) (Fu hb1)
   have hg2:=A7 (A7 hg (Ar w1 g 2 (.bool false))) (Ar _ g 1 (.int .i64 (q : Int)))
   exact ⟨rfl,⟨v,_,Az h6,fun w' hu=>H2.out w' (D1 (C5 hlt hg2) hu),fun b hb=>by injection hb with hb; subst hb; exact ⟨rfl,hq⟩⟩,hg2⟩
def hLeaf (l : Bs) : Pos→List Ag × Pos:=rL l 64 (Ch l 64 128)
def hBranch (l : Bs) : Pos→Dx × Pos:=rP (rI l) (rL l 64 (Bz l 64))
theorem rtakenLeaf (b : Bs) (hb : b.length≤140737488355328) : Gs 76 hLeaf (A5 ltB) b=Eu b:=by
 refine Option.ext fun f=>?_
 rw [Ib _ (by omega),Nn (enc:=Bv) (ok:=fun f=>((f.length : Int)≤64∧∀ p∈f,(p.1.length : Int)≤64∧(p.2.length : Int)≤128)) (((fmT b 64 (by omega)).both (fmT b 128 (by omega))).many 64 (by omega)) (fun x hx=>?_) f]
 simp only [A5,As,Bool.and_eq_true,decide_eq_true_eq,List.all_eq_true] at hx
 exact ⟨by omega,fun p hp=>by have:=hx.1.2 p hp; omega⟩
theorem rtakenBranch (b : Bs) (hb : b.length≤140737488355328) : Gs 66 hBranch (A4 ltB) b=E4 b:=by
 refine Option.ext fun f=>?_
 rw [K7 _ (by omega),Nn (enc:=C8) (ok:=fun f=>Cg f.1∧((f.2.length : Int)≤64∧∀ p∈f.2,(p.1.length : Int)≤64∧p.2.1.length=32∧Cg p.2.2)) ((fmI b).both (((fmT b 64 (by omega)).both (fmPart b)).many 64 (by omega))) (fun x hx=>?_) f]
 simp only [A4,Dw,Ci,As,Bool.and_eq_true,decide_eq_true_eq,List.all_eq_true] at hx
 obtain ⟨⟨⟨⟨h1,h2⟩,h3⟩,_⟩,h4⟩:=hx
 exact ⟨⟨by omega,by omega⟩,by omega,fun p hp=>⟨by have:=(h3 p hp).1; omega,(h3 p hp).2,Ky h4 (by omega) (by omega) _ (List.mem_map_of_mem (f:=fun p : Ah=>p.2.2) hp)⟩⟩
end Go.Proofs.YtckejblkppllaaaGreatDoor
