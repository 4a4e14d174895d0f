/-
  The law's shown. Conditions: the table of sums holds its numbers.
-/
import Derived.Test.YtblniomnhpedjaaGreatDoorP31TLog
namespace Go.Proofs.YtblniomnhpedjaaGreatDoor
open Go.RowKit
def nmT : Nm:=[116]
theorem nmT_ok : Cj nmT=true:=by decide
theorem calm_new (r : Nat) : B3 (Dk.new r):=⟨rfl,fun _=>rfl⟩
def ps1 : List An:=[([97],[49],false),([98],[50],false),([97,98],[51],false)]
def ps2 : List An:=[([97],[],true),([98],[53],false),([98],[54],false)]
def ps3 : List An:=[([97],[49],true)]
def lp1 : List Af:=[([97],[49]),([97,98],[51]),([98],[50])]
def lp2 : List Af:=[([97,98],[51]),([98],[54])]
theorem a1 : Bg [] ps1=0:=by decide +kernel
theorem n1 : Bz [] ps1=lp1:=by decide +kernel
theorem a2 : Bg lp1 ps2=0:=by decide +kernel
theorem n2 : Bz lp1 ps2=lp2:=by decide +kernel
theorem a3 : Bg lp2 ps3=130:=by decide +kernel
theorem n3 : Bz lp2 ps3=lp2:=by decide +kernel
theorem f1 : lp1.filter (fun p=>([97] : Bs).isPrefixOf p.1) = [([97],[49]),([97,98],[51])]:=by decide +kernel
theorem k1 : 1+(130+30 * ps1.length+Bk ps1)+Ag (Ai [] ps1)≤300:=by decide +kernel
theorem k2 : 301+(130+30 * ps2.length+Bk ps2)+Ag (Ai lp1 ps2)≤600:=by decide +kernel
theorem k3 : 901+(130+30 * ps3.length+Bk ps3)+Ag (Ai lp2 ps3)≤1200:=by decide +kernel
set_option maxRecDepth 20000 in
set_option maxHeartbeats 3200000 in
theorem shown_any (w : World) (hB0 : 0<w.heap.size) (hT : Bm w) : Calls Tryz.prog 9 #[] w fun e w'=>e = .returned (.bool true)∧Below w.heap.size w w':=by
 have HT:=Ab hT
 clear hT
 have hnew:=new_lies2 (B:=w.heap.size) w (Nat.le_refl _) 100000 (by decide)
 go_enter Tryz.func9,Tryz.ntmps9
 go_wp2_with fail
 refine hnew.mono ?_
 rintro e w1 ⟨rfl,hs1,hc1⟩
 have hb1 : Below w.heap.size w w1:=hc1.below (fun _ h=>h.elim) (Nat.le_refl _)
 have hop:=Lv hs1 (on_new (z:=nmT) 100000) tab_none (by decide) (calm_new 100000) nmT_ok hc1.size hB0 (HT.out.keep hb1) (by decide)
 have hop : Calls Tryz.prog 14 #[.pointer (some ⟨w.heap.size,0,none⟩), .string ⟨#[116]⟩] w1 _:=hop
 go_wp2_with fail
 refine hop.mono ?_
 rintro e w2 ⟨t,b2,g,F2,rfl,hC2,hf2,ht2,hb2,hg2,hc2⟩
 have hC2 : Bt w.heap.size w2 F2 w.heap.size g t b2 nmT (Dk.new 100000).begun [] 1 100000:=hC2
 have hB2 : Below w.heap.size w w2:=hb1.trans (hc2.below (fun k hk=>Nat.le_of_eq hk.symm) hb1.size)
 clear hnew hop hc2 hf2 hs1 hc1
 -- the first Commit
 have hq:=Fd w2 (.cells (ps1.flatMap C1).toArray 73)
 have hap:=Kw (k:=300) (hC2.quiet hq) nmT_ok (L8 w2 ps1 73 (by decide)) hB0 (HT.out.keep (hB2.alloc hB2.size _)) (by decide) (by decide) k1
 rw [a1,n1] at hap
 have hap : Calls Tryz.prog 29 #[.pointer (some ⟨t,0,none⟩), .slice (some ⟨w2.heap.size,0,none⟩) 3 3] (w2.alloc (.cells #[.string ⟨#[97]⟩, .string ⟨#[49]⟩, .bool false, .string ⟨#[98]⟩, .string ⟨#[50]⟩, .bool false, .string ⟨#[97,98]⟩, .string ⟨#[51]⟩, .bool false] 73)) _:=hap
 go_wp2_with fail
 refine hap.mono ?_
 rintro e w3 ⟨rfl,F3,b3,S3,hC3,-,hf3,-,hc3⟩
 have hC3 : Bt w.heap.size w3 F3 w.heap.size g t b3 nmT S3 lp1 301 100000:=hC3
 have hB3 : Below w.heap.size w w3:=(hB2.alloc hB2.size _).trans ((hC2.quiet hq).belowC hc3)
 clear hap hC2 hc3 hf3 hq
 -- All
 have hal:=tall_calm hC3 [97] (by decide)
 rw [f1] at hal
 have hal : Calls Tryz.prog 32 #[.pointer (some ⟨t,0,none⟩), .string ⟨#[97]⟩] w3 _:=hal
 go_wp2_with fail
 refine hal.mono ?_
 rintro e w4 ⟨v4,rfl,hp4,hb4⟩
 have q4:=C5 hb4
 have hC4:=hC3.quiet q4
 have hB4 : Below w.heap.size w w4:=hB3.trans (q4.below (fun _ h=>h.elim) hB3.size)
 obtain ⟨o4,c4,rfl⟩:=hp4.form
 clear hal hC3 hb4 q4
 have hq:=Fd w4 (.cells (([([97],[49]),([97,98],[51])] : List Af).flatMap prC).toArray 75)
 have hsm:=Hx _ _ _ _ _ (hp4.quiet hq) (prT_built w4 [([97],[49]),([97,98],[51])] 75 (by decide))
 rw [decide_eq_true rfl] at hsm
 have hsm : Calls Tryz.prog 31 #[.slice o4 2 c4, .slice (some ⟨w4.heap.size,0,none⟩) 2 2] (w4.alloc (.cells #[.string ⟨#[97]⟩, .string ⟨#[49]⟩, .string ⟨#[97,98]⟩, .string ⟨#[51]⟩] 75)) _:=hsm
 go_wp2_with fail
 refine hsm.mono ?_
 rintro e w5 ⟨rfl,hc5⟩
 have hC5:=(hC4.quiet hq).quiet hc5
 have hB5 : Below w.heap.size w w5:=(hB4.alloc hB4.size _).trans (hc5.below (fun _ h=>h.elim) (by have:=hB4.size; simp; omega))
 clear hsm hC4 hc5 hq hp4
 -- the second Commit
 have hq:=Fd w5 (.cells (ps2.flatMap C1).toArray 73)
 have hap:=Kw (k:=600) (hC5.quiet hq) nmT_ok (L8 w5 ps2 73 (by decide)) hB0 (HT.out.keep (hB5.alloc hB5.size _)) (by decide) (by decide) k2
 rw [a2,n2] at hap
 have hap : Calls Tryz.prog 29 #[.pointer (some ⟨t,0,none⟩), .slice (some ⟨w5.heap.size,0,none⟩) 3 3] (w5.alloc (.cells #[.string ⟨#[97]⟩, .string ⟨#[]⟩, .bool true, .string ⟨#[98]⟩, .string ⟨#[53]⟩, .bool false, .string ⟨#[98]⟩, .string ⟨#[54]⟩, .bool false] 73)) _:=hap
 go_wp2_with fail
 refine hap.mono ?_
 rintro e w6 ⟨rfl,F6,b6,S6,hC6,-,hf6,-,hc6⟩
 have hC6 : Bt w.heap.size w6 F6 w.heap.size g t b6 nmT S6 lp2 901 100000:=hC6
 have hB6 : Below w.heap.size w w6:=(hB5.alloc hB5.size _).trans ((hC5.quiet hq).belowC hc6)
 clear hap hC5 hc6 hf6 hq
 -- the third,which is refused
 have hq:=Fd w6 (.cells (ps3.flatMap C1).toArray 73)
 have hap:=Kw (k:=1200) (hC6.quiet hq) nmT_ok (L8 w6 ps3 73 (by decide)) hB0 (HT.out.keep (hB6.alloc hB6.size _)) (by decide) (by decide) k3
 rw [a3,n3] at hap
 have hap : Calls Tryz.prog 29 #[.pointer (some ⟨t,0,none⟩), .slice (some ⟨w6.heap.size,0,none⟩) 1 1] (w6.alloc (.cells #[.string ⟨#[97]⟩, .string ⟨#[49]⟩, .bool true] 73)) _:=hap
 go_wp2_with fail
 refine hap.mono ?_
 rintro e w7 ⟨rfl,F7,b7,S7,hC7,-,hf7,-,hc7⟩
 have hC7 : Bt w.heap.size w7 F7 w.heap.size g t b7 nmT S7 lp2 2101 100000:=hC7
 have hB7 : Below w.heap.size w w7:=(hB6.alloc hB6.size _).trans ((hC6.quiet hq).belowC hc7)
 clear hap hC6 hc7 hf7 hq
 -- behind a crash
 have hcr:=tcrash_calm hC7 (by decide) 0 0
 go_wp2_with fail
 refine hcr.mono ?_
 rintro e w8 ⟨d8,F8,S8,t8,gs8,rfl,hs8,ho8,hto8,hgl8,hm8,hk8,hf8,hc8⟩
 have hC8:=hC7.quiet hc8
 have hB8 : Below w.heap.size w w8:=hB7.trans (hc8.below (fun _ h=>h.elim) hB7.size)
 have hop:=Lv hs8 ho8 hto8 hgl8 hm8 nmT_ok hB8.size hB0 (HT.out.keep hB8) (by omega)
 have hop : Calls Tryz.prog 14 #[.pointer (some ⟨d8,0,none⟩), .string ⟨#[116]⟩] w8 _:=hop
 clear hcr
 go_wp2_with fail
 refine hop.mono ?_
 rintro e w9 ⟨t9,b9,g9,F9,rfl,hX9,hf9,ht9,hbb9,hg9,hc9⟩
 have hlow:=hC7.low
 have hFn : ∀ k,k<w7.heap.size→¬ F8 k:=fun k hk hq=>by have:=hf8 k hq; omega
 have hC9:=hC8.keep hc9 (fun k hk=>hFn k (hlow.1 k hk).2) (hFn _ hlow.2.2.1.2) (hFn _ hlow.2.2.2.2) (hFn _ hlow.2.1.2)
 have hB9 : Below w.heap.size w w9:=hB8.trans (hc9.below (fun k hk=>by have:=hf8 k hk; have:=hB7.size; omega) hB8.size)
 clear hop hs8 ho8 hm8 hk8 hf8 hc8 hc9 hC8 hC7 hlow hFn hf9
 -- what it has
 have hal:=tall_calm hX9 [] (by decide)
 rw [N0] at hal
 have hal : Calls Tryz.prog 32 #[.pointer (some ⟨t9,0,none⟩), .string ⟨#[]⟩] w9 _:=hal
 go_wp2_with fail
 refine hal.mono ?_
 rintro e w10 ⟨v10,rfl,hp10,hb10⟩
 have q10:=C5 hb10
 have hC10:=hC9.quiet q10
 have hB10 : Below w.heap.size w w10:=hB9.trans (q10.below (fun _ h=>h.elim) hB9.size)
 obtain ⟨o10,c10,rfl⟩:=hp10.form
 clear hal hC9 hX9 hb10 q10
 have hq:=Fd w10 (.cells (lp2.flatMap prC).toArray 75)
 have hsm:=Hx _ _ _ _ _ (hp10.quiet hq) (prT_built w10 lp2 75 (by decide))
 rw [decide_eq_true rfl] at hsm
 have hsm : Calls Tryz.prog 31 #[.slice o10 2 c10, .slice (some ⟨w10.heap.size,0,none⟩) 2 2] (w10.alloc (.cells #[.string ⟨#[97,98]⟩, .string ⟨#[51]⟩, .string ⟨#[98]⟩, .string ⟨#[54]⟩] 75)) _:=hsm
 have HP10:=Ab hp10
 clear hp10
 go_wp2_with fail
 refine hsm.mono ?_
 rintro e w11 ⟨rfl,hc11⟩
 have hC11:=(hC10.quiet hq).quiet hc11
 have hB11 : Below w.heap.size w w11:=(hB10.alloc hB10.size _).trans (hc11.below (fun _ h=>h.elim) (by have:=hB10.size; simp; omega))
 clear hsm hC10 hc11 hq
 have hbad:=topen_bad w11 w.heap.size [] (by decide)
 have hbad : Calls Tryz.prog 14 #[.pointer (some ⟨w.heap.size,0,none⟩), .string ⟨#[]⟩] w11 _:=hbad
 go_wp2_with fail
 refine hbad.mono ?_
 rintro e w12 ⟨rfl,rfl⟩
 have hle:=tlen_calm hC11
 clear hbad
 go_wp2_with fail
 refine hle.mono ?_
 rintro e w13 ⟨rfl,rfl⟩
 go_wp2
 go_ret
 exact ⟨rfl,hB11⟩
end Go.Proofs.YtblniomnhpedjaaGreatDoor
