/-
  Texts joined: TRows2, TDo.
-/
import Derived.Test.YtblniomnhpedjaaGreatDoorL10KeepDir
namespace Go.Proofs.YtblniomnhpedjaaGreatDoor
open Go.RowKit
set_option maxRecDepth 20000 in
set_option maxHeartbeats 800000 in
theorem lay_any (w : World) (g b : Nat) (l m : List Af) (h : RowsAt w g b l) (x : Af) (hm : Bq m) (hp : m.Perm (x :: l)) (hw : Ag m≤70368744177664) :
  Calls Tryz.prog 81 #[.pointer (some ⟨g,0,none⟩), .string (Ae x.1), .string (Ae x.2)] w fun e w'=>e = .returned (.tuple #[])∧RowsAt w' g b m∧Chg (fun k=>k=g∨k=b) w w':=by
 have hwt : Ag m=16+x.1.length+x.2.length+Ag l:=by rw [Kw hp,Hd]
 have hne : ∀ y∈l,y.1≠x.1:=by
  have hk:=(hp.map (·.1)).nodup_iff.1 (rises_keys hm)
  rw [List.map_cons,List.nodup_cons] at hk
  exact fun y hy e=>hk.1 (e ▸ List.mem_map.2 ⟨y,hy,rfl⟩)
 have hk1:=fun W=>E8 W x.1 (by omega)
 have hk2:=fun W=>E8 W x.2 (by omega)
 have hwg:=fun W=>weigh_any W x (by omega) (by omega)
 obtain ⟨wl,hwl⟩ : ∃ wl,wl=Ag l:=⟨_,rfl⟩
 obtain ⟨wn,hwn⟩ : ∃ wn,wn=Ag m:=⟨_,rfl⟩
 obtain ⟨wx,hwx⟩ : ∃ wx,wx=16+x.1.length+x.2.length:=⟨_,rfl⟩
 rw [← hwx] at hwg
 have hadd : IntKind.i64.wrap ((wl : Int)+(wx : Int))=(wn : Int):=by
  have h3 : wn=wx+wl:=by rw [hwl,hwn,hwx]; exact hwt
  rw [show (wl : Int)+(wx : Int)=(wn : Int) by omega]
  simp [IntKind.wrap,IntKind.bits,IntKind.signed]
  omega
 have H:=Ab (And.intro h (And.intro hwl (And.intro hwn (And.intro hm (And.intro hp hne)))))
 have hgl:=At h.cells
 have hbl:=h.map.lt
 have hgb:=h.ne
 clear hwt hne h hwl hwn hwx hm hp hw
 go_enter Tryz.func81,Tryz.ntmps81
 go_wp2_with fail
 refine (hk1 _).mono ?_
 rintro e w1 ⟨rfl,hb1⟩
 go_wp2_with fail
 refine (hk2 _).mono ?_
 rintro e w2 ⟨rfl,hb2⟩
 have hB:=hb1.trans (hb2.mono hb1.size)
 have hq : Chg (fun _=>False) w w2:=(Chg.of_below hB).mono fun k h1 h2=>by omega
 have hs2:=hB.size
 clear hk1 hk2 hb1 hb2 hB
 have hcl:=H.out.1.cells
 rw [← H.out.2.1] at hcl
 have hV1:=hq.trans (Cm w2 (prO x)) (fun _ _ h=>h)
 have hVg:=Aq w2 (prO x)
 have hVr:=hV1.keep hcl (fun h=>h)
 have hVm:=H.out.1.map.keep hV1 (fun h=>h)
 obtain ⟨V,hV⟩ : ∃ V,w2.alloc (prO x)=V:=⟨_,rfl⟩
 rw [hV] at hV1 hVg hVr hVm
 have x0:=Ad hVg 0
 have x1:=Ad hVg 1
 have r0:=Ad hVr 0
 simp only [List.getElem?_toArray,List.getElem?_cons_zero,List.getElem?_cons_succ] at x0 x1 r0
 have hVm' : Ak V.drew b (rv l):=hVm.same rfl
 obtain ⟨X,hput,hXm,hXc,hXs⟩:=hVm'.put_new (kstr V.drew) (Hx l) Tryz.underlying95 (x:=.string (Ae x.1)) ⟨_,rfl⟩ (rv_ne H.out.2.2.2.2.2) (.agg #[.string (Ae x.1), .string (Ae x.2)])
 have hXm2 : Ak X b (rv m):=hXm.perm (H.out.2.2.2.2.1.symm.map fun x : Af=>((Value.string (Ae x.1) : Value),Value.agg #[.string (Ae x.1), .string (Ae x.2)]))
 have hX1 : Chg (fun k=>k=g∨k=b) w X:=(hV1.mono fun _ _ h=>h.elim).then (hXc.undrew.mono fun _ _ h=>.inr h)
 have hXr:=hXc.keep (show V.drew.heap[g]? = _ from hVr) hgb
 have hXg:=hXc.keep (show V.drew.heap[w2.heap.size]? = _ from hVg) (by omega)
 have a0:=Ad hXg 0
 have a1:=Ad hXg 1
 have b0:=Ad hXr 0
 have b1:=Ad hXr 1
 simp only [List.getElem?_toArray,List.getElem?_cons_zero,List.getElem?_cons_succ] at a0 a1 b0 b1
 have hU1:=hX1.trans (Cm X.drew (prO x)).undrew (fun _ _ h=>h.elim)
 have hUr:=(Cm X.drew (prO x)).keep (show X.drew.heap[g]? = _ from hXr) (fun h=>h)
 have hUg:=(Cm X.drew (prO x)).keep (show X.drew.heap[w2.heap.size]? = _ from hXg) (fun h=>h)
 have hUm:=hXm2.keep (Cm X.drew (prO x)).undrew (fun h=>h)
 obtain ⟨U,hU⟩ : ∃ U,X.drew.alloc (prO x)=U:=⟨_,rfl⟩
 rw [hU] at hU1 hUr hUg hUm
 have u1:=Ad hUr 1
 have y0:=Ad hUg 0
 have y1:=Ad hUg 1
 simp only [List.getElem?_toArray,List.getElem?_cons_zero,List.getElem?_cons_succ] at u1 y0 y1
 have u2:=Au hUr 1
 have hY:=Ax hUr 1 (.int .i64 (wn : Int))
 have hYc : Chg (fun k=>k=g∨k=b) w (U.setCell ⟨g,1,none⟩ (.int .i64 (wn : Int))):=hU1.setCell (.inl (.inl rfl)) _
 have hYg:=Ct (p:=⟨g,1,none⟩) (u:=.int .i64 (wn : Int)) hUg (by simp; omega)
 have hYm : Ak (U.setCell ⟨g,1,none⟩ (.int .i64 (wn : Int))) b (rv m):=hUm.same (Below.heap_setCell _ _ _ _ (by simp; omega))
 obtain ⟨Y,hYe⟩ : ∃ Y,U.setCell ⟨g,1,none⟩ (.int .i64 (wn : Int))=Y:=⟨_,rfl⟩
 rw [hYe] at hY hYc hYg hYm
 simp only [List.setIfInBounds_toArray,List.set_cons_zero,List.set_cons_succ] at hY
 have z0:=Ad hYg 0
 have z1:=Ad hYg 1
 simp only [List.getElem?_toArray,List.getElem?_cons_zero,List.getElem?_cons_succ] at z0 z1
 have HF : Hid (RowsAt Y g b m∧Chg (fun k=>k=g∨k=b) w Y):=Ab ⟨⟨by rw [← H.out.2.2.1]; exact hY,hYm,H.out.2.2.2.1⟩,hYc⟩
 clear hcl hV1 hVg hVr hVm hVm' hXm hXm2 hXc hXs hX1 hXr hXg hU1 hUr hUg hUm hY hYc hYg hYm hq
 go_wp2_with fail
 refine wp_region_held_drew (S:=fun W=>W.cell? ⟨w2.heap.size,0,none⟩=some (.string (Ae x.1))∧W.cell? ⟨w2.heap.size,1,none⟩=some (.string (Ae x.2))∧W.cell? ⟨g,0,none⟩=some (.map (some b))) (by kernel_rfl) (⟨x0,x1,r0⟩) (fun hHeld=>?_)
 refine Aa (i:=0) (v:=?_) rfl (by kernel_rfl) (by kernel_rfl) (by kernel_rfl) (fun _ _ _ h=>h) rfl ?_ hHeld ?_
 rotate_left
 ·intro w hS; (try dsimp only at hS); obtain ⟨hS0,hS1,hS2⟩:=hS; go_simp; first | done | (with_reducible rfl)
 try simp only [Act.put,List.setIfInBounds_toArray,List.set_cons_zero,List.set_cons_succ]
 refine Aa (i:=1) (v:=?_) rfl (by kernel_rfl) (by kernel_rfl) (by kernel_rfl) (fun _ _ _ h=>h) rfl ?_ hHeld ?_
 rotate_left
 ·intro w hS; (try dsimp only at hS); obtain ⟨hS0,hS1,hS2⟩:=hS; go_simp; first | done | (with_reducible rfl)
 try simp only [Act.put,List.setIfInBounds_toArray,List.set_cons_zero,List.set_cons_succ]
 refine Aa (i:=2) (v:=?_) rfl (by kernel_rfl) (by kernel_rfl) (by kernel_rfl) (fun _ _ _ h=>h) rfl ?_ hHeld ?_
 rotate_left
 ·intro w hS; (try dsimp only at hS); obtain ⟨hS0,hS1,hS2⟩:=hS; go_simp; first | done | (with_reducible rfl)
 try simp only [Act.put,List.setIfInBounds_toArray,List.set_cons_zero,List.set_cons_succ]
 refine Aa (i:=3) (v:=?_) rfl (by kernel_rfl) (by kernel_rfl) (by kernel_rfl) (fun _ _ _ h=>h) rfl ?_ hHeld ?_
 rotate_left
 ·intro w hS; (try dsimp only at hS); obtain ⟨hS0,hS1,hS2⟩:=hS; go_simp; first | done | (with_reducible rfl)
 try simp only [Act.put,List.setIfInBounds_toArray,List.set_cons_zero,List.set_cons_succ]
 refine Aa (i:=4) (v:=?_) rfl (by kernel_rfl) (by kernel_rfl) (by kernel_rfl) (fun _ _ _ h=>h) rfl ?_ hHeld ?_
 rotate_left
 ·intro w hS; (try dsimp only at hS); obtain ⟨hS0,hS1,hS2⟩:=hS; go_simp; first | done | (with_reducible rfl)
 try simp only [Act.put,List.setIfInBounds_toArray,List.set_cons_zero,List.set_cons_succ]
 refine Aa (i:=5) (v:=?_) rfl (by kernel_rfl) (by kernel_rfl) (by kernel_rfl) (fun _ _ _ h=>h) rfl ?_ hHeld ?_
 rotate_left
 ·intro w hS; (try dsimp only at hS); obtain ⟨hS0,hS1,hS2⟩:=hS; go_simp; first | done | (with_reducible rfl)
 try simp only [Act.put,List.setIfInBounds_toArray,List.set_cons_zero,List.set_cons_succ]
 refine Aa (i:=6) (v:=?_) rfl (by kernel_rfl) (by kernel_rfl) (by kernel_rfl) (fun _ _ _ h=>h) rfl ?_ hHeld ?_
 rotate_left
 ·intro w hS; (try dsimp only at hS); obtain ⟨hS0,hS1,hS2⟩:=hS; go_simp; first | done | (with_reducible rfl)
 try simp only [Act.put,List.setIfInBounds_toArray,List.set_cons_zero,List.set_cons_succ]
 refine An (i:=7) rfl (by kernel_rfl) rfl (fun K hK=>?_)
 go_simp
 refine hK.out _ _ (⟨a0,a1,b0⟩) (fun hHeld=>?_)
 clear hK K
 try simp only [Act.put,List.setIfInBounds_toArray,List.set_cons_zero,List.set_cons_succ]
 refine wpAnyH_done (by kernel_rfl) ?_ _
 clear hHeld
 go_wp2_with fail
 refine wp_region_held_drew (S:=fun W=>W.cell? ⟨w2.heap.size,0,none⟩=some (.string (Ae x.1))∧W.cell? ⟨w2.heap.size,1,none⟩=some (.string (Ae x.2))) (by kernel_rfl) (⟨a0,a1⟩) (fun hHeld=>?_)
 refine Aa (i:=0) (v:=?_) rfl (by kernel_rfl) (by kernel_rfl) (by kernel_rfl) (fun _ _ _ h=>h) rfl ?_ hHeld ?_
 rotate_left
 ·intro w hS; (try dsimp only at hS); obtain ⟨hS0,hS1⟩:=hS; go_simp; first | done | (with_reducible rfl)
 try simp only [Act.put,List.setIfInBounds_toArray,List.set_cons_zero,List.set_cons_succ]
 refine Aa (i:=1) (v:=?_) rfl (by kernel_rfl) (by kernel_rfl) (by kernel_rfl) (fun _ _ _ h=>h) rfl ?_ hHeld ?_
 rotate_left
 ·intro w hS; (try dsimp only at hS); obtain ⟨hS0,hS1⟩:=hS; go_simp; first | done | (with_reducible rfl)
 try simp only [Act.put,List.setIfInBounds_toArray,List.set_cons_zero,List.set_cons_succ]
 refine Aa (i:=2) (v:=?_) rfl (by kernel_rfl) (by kernel_rfl) (by kernel_rfl) (fun _ _ _ h=>h) rfl ?_ hHeld ?_
 rotate_left
 ·intro w hS; (try dsimp only at hS); obtain ⟨hS0,hS1⟩:=hS; go_simp; first | done | (with_reducible rfl)
 try simp only [Act.put,List.setIfInBounds_toArray,List.set_cons_zero,List.set_cons_succ]
 refine Aa (i:=4) (v:=?_) rfl (by kernel_rfl) (by kernel_rfl) (by kernel_rfl) (fun _ _ _ h=>h) rfl ?_ hHeld ?_
 rotate_left
 ·intro w hS; (try dsimp only at hS); obtain ⟨hS0,hS1⟩:=hS; go_simp; first | done | (with_reducible rfl)
 try simp only [Act.put,List.setIfInBounds_toArray,List.set_cons_zero,List.set_cons_succ]
 refine twoH (i:=3) (j:=5) rfl rfl (by kernel_rfl) rfl rfl (fun K hK=>?_) (fun K hK=>?_)
 ·go_simp
  refine hK.out _ _ (⟨a0,a1⟩) (fun hHeld=>?_)
  clear hK K
  try simp only [Act.put,List.setIfInBounds_toArray,List.set_cons_zero,List.set_cons_succ]
  refine An (i:=5) rfl (by kernel_rfl) rfl (fun K hK=>?_)
  go_simp
  refine (hwg _).mono ?_
  rintro e w3 ⟨rfl,rfl⟩
  rw [hU]
  refine hK.out _ _ (⟨y0,y1⟩) (fun hHeld=>?_)
  clear hK K
  try simp only [Act.put,List.setIfInBounds_toArray,List.set_cons_zero,List.set_cons_succ]
  refine Aa (i:=6) (v:=?_) rfl (by kernel_rfl) (by kernel_rfl) (by kernel_rfl) (fun _ _ _ h=>h) rfl ?_ hHeld ?_
  rotate_left
  ·intro w hS; (try dsimp only at hS); obtain ⟨hS0,hS1⟩:=hS; go_simp; first | done | (with_reducible rfl)
  try simp only [Act.put,List.setIfInBounds_toArray,List.set_cons_zero,List.set_cons_succ]
  refine Aa (i:=7) (v:=?_) rfl (by kernel_rfl) (by kernel_rfl) (by kernel_rfl) (fun _ _ _ h=>h) rfl ?_ hHeld ?_
  rotate_left
  ·intro w hS; (try dsimp only at hS); obtain ⟨hS0,hS1⟩:=hS; go_simp; first | done | (with_reducible rfl)
  try simp only [Act.put,List.setIfInBounds_toArray,List.set_cons_zero,List.set_cons_succ]
  refine Aa (i:=8) (v:=?_) rfl (by kernel_rfl) (by kernel_rfl) (by kernel_rfl) (fun _ _ _ h=>h) rfl ?_ hHeld ?_
  rotate_left
  ·intro w hS; (try dsimp only at hS); obtain ⟨hS0,hS1⟩:=hS; go_simp; first | done | (with_reducible rfl)
  try simp only [Act.put,List.setIfInBounds_toArray,List.set_cons_zero,List.set_cons_succ]
  refine An (i:=9) rfl (by kernel_rfl) rfl (fun K hK=>?_)
  go_simp
  refine hK.out _ _ (⟨z0,z1⟩) (fun hHeld=>?_)
  clear hK K
  try simp only [Act.put,List.setIfInBounds_toArray,List.set_cons_zero,List.set_cons_succ]
  refine wpAnyH_done (by kernel_rfl) ?_ _
  clear hHeld
  go_wp2
  go_end0
  exact ⟨rfl,HF.out.1,HF.out.2⟩
 ·go_simp
  refine (hwg _).mono ?_
  rintro e w3 ⟨rfl,rfl⟩
  rw [hU]
  refine hK.out _ _ (⟨y0,y1⟩) (fun hHeld=>?_)
  clear hK K
  try simp only [Act.put,List.setIfInBounds_toArray,List.set_cons_zero,List.set_cons_succ]
  refine An (i:=3) rfl (by kernel_rfl) rfl (fun K hK=>?_)
  go_simp
  refine hK.out _ _ (⟨y0,y1⟩) (fun hHeld=>?_)
  clear hK K
  try simp only [Act.put,List.setIfInBounds_toArray,List.set_cons_zero,List.set_cons_succ]
  refine Aa (i:=6) (v:=?_) rfl (by kernel_rfl) (by kernel_rfl) (by kernel_rfl) (fun _ _ _ h=>h) rfl ?_ hHeld ?_
  rotate_left
  ·intro w hS; (try dsimp only at hS); obtain ⟨hS0,hS1⟩:=hS; go_simp; first | done | (with_reducible rfl)
  try simp only [Act.put,List.setIfInBounds_toArray,List.set_cons_zero,List.set_cons_succ]
  refine Aa (i:=7) (v:=?_) rfl (by kernel_rfl) (by kernel_rfl) (by kernel_rfl) (fun _ _ _ h=>h) rfl ?_ hHeld ?_
  rotate_left
  ·intro w hS; (try dsimp only at hS); obtain ⟨hS0,hS1⟩:=hS; go_simp; first | done | (with_reducible rfl)
  try simp only [Act.put,List.setIfInBounds_toArray,List.set_cons_zero,List.set_cons_succ]
  refine Aa (i:=8) (v:=?_) rfl (by kernel_rfl) (by kernel_rfl) (by kernel_rfl) (fun _ _ _ h=>h) rfl ?_ hHeld ?_
  rotate_left
  ·intro w hS; (try dsimp only at hS); obtain ⟨hS0,hS1⟩:=hS; go_simp; first | done | (with_reducible rfl)
  try simp only [Act.put,List.setIfInBounds_toArray,List.set_cons_zero,List.set_cons_succ]
  refine An (i:=9) rfl (by kernel_rfl) rfl (fun K hK=>?_)
  go_simp
  refine hK.out _ _ (⟨z0,z1⟩) (fun hHeld=>?_)
  clear hK K
  try simp only [Act.put,List.setIfInBounds_toArray,List.set_cons_zero,List.set_cons_succ]
  refine wpAnyH_done (by kernel_rfl) ?_ _
  clear hHeld
  go_wp2
  go_end0
  exact ⟨rfl,HF.out.1,HF.out.2⟩
end Go.Proofs.YtblniomnhpedjaaGreatDoor
namespace Go.Proofs.YtblniomnhpedjaaGreatDoor
open Go.RowKit
def PsT (w : World) (v : Value) (l : List Al) : Prop:=
 ∃ ao cap,v = .slice ao l.length cap∧l.length≤cap∧cap≤maxLen∧(l ≠ []→∃ b off,ao=some ⟨b,off,none⟩∧b<w.heap.size∧∀ j (h : j<l.length) i u,(Cu (l[j]'h))[i]? = some u→w.cell? ⟨b,off+j * 3+i,none⟩=some u)
theorem PsT.nil (w : World) : PsT w (.slice none 0 0) []:=⟨none,0,rfl,by simp,by simp,fun h=>absurd rfl h⟩
theorem PsT.keep {F : Nat→Prop} {w w' : World} {v : Value} {l : List Al} (h : PsT w v l) (hc : Chg F w w') (hn : l ≠ []→∀ b off n cap,v = .slice (some ⟨b,off,none⟩) n cap→¬ F b) : PsT w' v l:=by
 obtain ⟨ao,cap,hv,h1,h2,h4⟩:=h
 refine ⟨ao,cap,hv,h1,h2,fun hl=>?_⟩
 obtain ⟨b,off,ha,hlt,hcc⟩:=h4 hl
 have hb:=hn hl b off _ _ (by rw [hv,ha])
 exact ⟨b,off,ha,Nat.lt_of_lt_of_le hlt hc.size,fun j hj i u hu=>(World.cell?_of_block (w:=w) (hc.block b hlt hb)).trans (hcc j hj i u hu)⟩
theorem PsT.quiet {w w' : World} {v : Value} {l : List Al} (h : PsT w v l) (hc : Chg (fun _=>False) w w') : PsT w' v l:=h.keep hc fun _ _ _ _ _ _ h=>h
theorem PsT.apart {w : World} {v : Value} {l : List Al} {g b : Nat} {m : List Af} (h : PsT w v l) (hr : RowsAt w g b m) : l ≠ []→∀ p off n cap,v = .slice (some ⟨p,off,none⟩) n cap→¬ (p=g∨p=b):=by
 intro hl p off n cap hv
 obtain ⟨ao,cap',hv',-,-,h4⟩:=h
 obtain ⟨p',off',ha,hlt,hc⟩:=h4 hl
 rw [hv',ha] at hv
 injection hv with e1 e2 e3
 injection e1 with e1
 injection e1 with e1 e4
 subst e1 e4
 have hpos : 0<l.length:=List.length_pos_iff.2 hl
 have c0:=hc 0 hpos 0 _ rfl
 rintro (rfl | rfl)
 ·rw [Ad hr.cells] at c0
  simp only [Nat.zero_mul,Nat.add_zero] at c0
  match off',c0 with
  | 0,c0=>simp at c0
  | 1,c0=>simp at c0
  | n+2,c0=>simp at c0
 ·obtain ⟨es,ck,hm,-⟩:=hr.map
  simp [World.cell?,hm] at c0
def C5 (l : List Al) : Nat:=(l.map fun p=>16+p.1.length+p.2.1.length).sum
theorem O3 (p : Al) (l : List Al) : C5 (p :: l)=16+p.1.length+p.2.1.length+C5 l:=by simp [C5]
theorem N7 (a b : List Al) : C5 (a++b)=C5 a+C5 b:=by simp [C5]
theorem burden_take (l : List Al) {k : Nat} (h : k<l.length) : C5 (l.take (k+1))=C5 (l.take k)+(16+l[k].1.length+l[k].2.1.length):=by
 rw [show l.take (k+1)=l.take k ++ [l[k]] by rw [List.take_add_one]; simp [h],N7]
 generalize l[k]=x
 simp [C5]
theorem burden_le (l : List Al) (k : Nat) : C5 (l.take k)≤C5 l:=by
 have:=N7 (l.take k) (l.drop k)
 rw [List.take_append_drop] at this
 omega
theorem K6 (l : List Af) (ps : List Al) {k : Nat} (h : k<ps.length) : Ai l (ps.take (k+1))=Bv (Ai l (ps.take k)) ps[k]:=by
 rw [show ps.take (k+1)=ps.take k ++ [ps[k]] by rw [List.take_add_one]; simp [h]]
 unfold Ai
 rw [List.foldl_append]
 rfl
theorem Pk {l : List Af} (h : Bq l) (ps : List Al) : Ag (Ai l ps)≤Ag l+C5 ps:=by
 induction ps generalizing l with
 | nil=>simp [Ai,C5]
 | cons p r ih=>
  have h1:=ih (Im h p)
  have h2:=Mw l h p
  rw [O3]
  exact Nat.le_trans h1 (by omega)
abbrev A7 (p : Al) : Obj:=.cells #[.string (Ae p.1), .string (Ae p.2.1), .bool p.2.2] 73
set_option maxRecDepth 20000 in
set_option maxHeartbeats 800000 in
theorem do_any (w : World) (g b : Nat) (l : List Af) (h : RowsAt w g b l) (v : Value) (ps : List Al) (hv : PsT w v ps) (hw : Ag l+C5 ps≤70368744177664) :
  Calls Tryz.prog 61 #[.pointer (some ⟨g,0,none⟩),v] w fun e w'=>e = .returned (.tuple #[])∧RowsAt w' g b (Ai l ps)∧Chg (fun k=>k=g∨k=b) w w':=by
 have hap:=hv.apart h
 have hri:=h.rises
 obtain ⟨ao,cap,rfl,h1,h2,h4⟩:=id hv
 unfold maxLen at h2
 have HV:=Ab hv
 have H:=Ab h
 have HA:=Ab hap
 clear hv h hap
 go_enter Tryz.func61,Tryz.ntmps61
 go_wp2_with fail
 go_loopw [8] (fun t wr=>∃ k : Nat,k≤ps.length∧t = .int .i64 k∧RowsAt wr g b (Ai l (ps.take k))∧Chg (fun k=>k=g∨k=b) w wr)
  (fun t _=>ps.length - (intOf t).toNat)
 case atStart=>exact ⟨0,by omega,rfl,H.out,Chg.refl _ _⟩
 case round=>
  obtain ⟨k,hk,rfl,hro,hch⟩:=hrel
  by_cases hlt : k<ps.length
  ·have hps:=HV.out.keep hch HA.out
   obtain ⟨_,_,e,-,-,h4'⟩:=hps
   injection e with e1 e2 e3
   subst e1 e3
   clear e2
   obtain ⟨pb,off,rfl,hbl,hc⟩:=h4' (by intro e; rw [e] at hlt; simp at hlt)
   have c0:=hc k hlt 0 _ rfl
   have c1:=hc k hlt 1 _ rfl
   have c2:=hc k hlt 2 _ rfl
   have htk:=K6 l ps hlt
   have hwk:=Pk hri (ps.take k)
   have hbk:=burden_take ps hlt
   have hb2:=burden_le ps (k+1)
   have hwn:=Mw _ hro.rises ps[k]
   have hrn:=Im hro.rises ps[k]
   generalize ps[k]=x at *
   try simp only [Nat.add_zero] at c0 c1 c2
   have hA:=Cm wr (A7 x)
   have hroA:=hro.keep hA (fun h=>h) (fun h=>h)
   have hxA:=Aq wr (A7 x)
   have hgne : wr.heap.size≠g∧wr.heap.size≠b:=⟨by have:=At hro.cells; omega,by have:=hro.map.lt; omega⟩
   have htake:=take_any _ g b _ hroA x.1 (by omega)
   have HX:=Ab (And.intro hxA (And.intro hch (And.intro hA (And.intro htk (And.intro hwn (And.intro hrn hgne))))))
   have hwt : Ag (Bv (Ai l (ps.take k)) x)≤70368744177664:=by omega
   generalize hll : Ai l (ps.take k)=ll at *
   clear hll hc hro hroA hxA hch hA htk hwk hbk hb2 hwn hrn
   cases hgo : x.2.2 with
   | true=>
    rw [hgo] at c2
    simp only [A7,hgo] at htake
    have hx:=HX.out.1
    have hA2:=HX.out.2.2.1
    simp only [A7,hgo] at hx hA2
    have HQ:=Ab (And.intro hx hA2)
    clear hx hA2
    go_wp2_with fail
    refine htake.mono ?_
    rintro e w1 ⟨rfl,hr1,hc1⟩
    have y2:=Ad (hc1.keep HQ.out.1 (by simpa using HX.out.2.2.2.2.2.2)) 2
    simp only [List.getElem?_toArray,List.getElem?_cons_zero,List.getElem?_cons_succ] at y2
    rw [← done_gone ll x hgo,← HX.out.2.2.2.1] at hr1
    have HR:=Ab (And.intro hr1 ((HX.out.2.1.trans HQ.out.2 (fun _ _ h=>h.elim)).then hc1))
    clear hr1 hc1 htake
    go_wp2_with fail
    go_roundw
    case rel=>exact ⟨k+1,by omega,by go_num,HR.out.1,HR.out.2⟩
    case measure=>simp [intOf]; omega
   | false=>
    rw [hgo] at c2
    simp only [A7,hgo] at htake
    have hx:=HX.out.1
    have hA2:=HX.out.2.2.1
    simp only [A7,hgo] at hx hA2
    have HQ:=Ab (And.intro hx hA2)
    clear hx hA2
    go_wp2_with fail
    refine htake.mono ?_
    rintro e w1 ⟨rfl,hr1,hc1⟩
    have hx1:=hc1.keep HQ.out.1 (by simpa using HX.out.2.2.2.2.2.2)
    have y0:=Ad hx1 0
    have y1:=Ad hx1 1
    have y2:=Ad hx1 2
    simp only [List.getElem?_toArray,List.getElem?_cons_zero,List.getElem?_cons_succ] at y0 y1 y2
    have hpm : (Bv ll x).Perm ((x.1,x.2.1) :: Du ll x.1):=by have:=done_less ll x; rw [hgo] at this; exact this
    have hlay:=lay_any w1 g b _ (Bv ll x) hr1 (x.1,x.2.1) HX.out.2.2.2.2.2.1 hpm hwt
    have HR1:=Ab ((HX.out.2.1.trans HQ.out.2 (fun _ _ h=>h.elim)).then hc1)
    clear hr1 hc1 htake hx1 hpm
    go_wp2_with fail
    refine hlay.mono ?_
    rintro e w2 ⟨rfl,hr2,hc2⟩
    rw [← HX.out.2.2.2.1] at hr2
    have HR:=Ab (And.intro hr2 (HR1.out.then hc2))
    clear hr2 hc2 hlay
    go_wp2_with fail
    go_roundw
    case rel=>exact ⟨k+1,by omega,by go_num,HR.out.1,HR.out.2⟩
    case measure=>simp [intOf]; omega
  ·have hkl : k=ps.length:=by omega
   subst hkl
   rw [List.take_length] at hro
   have HR:=Ab (And.intro hro hch)
   clear hro hch
   go_wp2
   go_end0
   exact ⟨rfl,HR.out.1,HR.out.2⟩
end Go.Proofs.YtblniomnhpedjaaGreatDoor
