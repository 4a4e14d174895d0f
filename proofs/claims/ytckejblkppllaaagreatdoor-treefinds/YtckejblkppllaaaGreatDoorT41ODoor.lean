/-
  Texts joined: ODoor, YInto, YCome, YDo, YSeek.
-/
import Derived.Test.YtckejblkppllaaaGreatDoorCards
import Derived.Test.YtckejblkppllaaaGreatDoorTie
import Derived.Test.YtckejblkppllaaaGreatDoorT8OTake
import Derived.OpenShut
import Derived.ShutString
import Derived.ChangeOld
import Derived.SizedLaws
import Derived.Deep.DeepHandedRow
import Derived.Lib.LaidTab
import Derived.Deep.Slices
import Derived.Deep.Strs
import Derived.Test.YtckejblkppllaaaGreatDoorT39ASeq
import Derived.Test.YtckejblkppllaaaGreatDoorT40YGoTo
namespace Go.Proofs.YtckejblkppllaaaGreatDoor
open Go.ChangeShapes Go.WideShapes Go.ChangeAt Go.RowKit
open Go.ChangeMaps (open_string shut_string)
theorem own : ownKnob Tryz.prog.godebug=none:=by kernel_rfl
theorem laidOut : laidOutB Tryz.prog=true:=by kernel_rfl
theorem gTab : Tryz.prog.globalNamed "tussock/hash.roundNumbers" = some 1:=by kernel_rfl
theorem gTabType : (Tryz.prog.globals[1]?).map (·.type)=some 303:=by kernel_rfl
theorem cellsTab : Tryz.prog.cellsOf 303=64:=by kernel_rfl
theorem cellsU : Tryz.prog.cellsOf 302=1:=by kernel_rfl
theorem Jy {w : World} {p : Addr} {v : Value} (h : w.cell? p=some v) : p.block<w.heap.size:=by
 rcases Nat.lt_or_ge p.block w.heap.size with h1 | h1
 ·exact h1
 ·unfold World.cell? at h
  rw [Array.getElem?_eq_none h1] at h
  simp at h
theorem table {W : World} (h : laidMetH Tryz.prog [("tussock/hash.roundNumbers",Rows.laid_tussock_hash_roundNumbers)] W) :
  Lib.TabIs Tryz.prog W "tussock/hash.roundNumbers" .u32 [1116352408,1899447441,3049323471,3921009573,961987163,1508970993,2453635748,2870763221,3624381080,310598401,607225278,1426881987,1925078388,2162078206,2614888103,3248222580,3835390401,4022224774,264347078,604807628,770255983,1249150122,1555081692,1996064986,2554220882,2821834349,2952996808,3210313671,3336571891,3584528711,113926993,338241895,666307205,773529912,1294757372,1396182291,1695183700,1986661051,2177026350,2456956037,2730485921,2820302411,3259730800,3345764771,3516065817,3600352804,4094571909,275423344,430227734,506948616,659060556,883997877,958139571,1322822218,1537002063,1747873779,1955562222,2024104815,2227730452,2361852424,2428436474,2756734187,3204031479,3329325298]:=
 Lib.tabIs_of_head (rest:=[]) gTab gTabType Tryz.underlying303 Tryz.underlying302 cellsU cellsTab h
theorem tabW {W : World} (h : laidMetH Tryz.prog [("tussock/hash.roundNumbers",Rows.laid_tussock_hash_roundNumbers)] W) : Bh W:=by
 have hc : ∀ j,j<64→W.cell? ⟨1,j,none⟩=some (.int .u32 (u (kL.getD j 0))):=by
  intro j hj
  rw [(table h).cell gTab j (by simpa using hj)]
  have : ∀ j : Fin 64,([1116352408,1899447441,3049323471,3921009573,961987163,1508970993,2453635748,2870763221,3624381080,310598401,607225278,1426881987,1925078388,2162078206,2614888103,3248222580,3835390401,4022224774,264347078,604807628,770255983,1249150122,1555081692,1996064986,2554220882,2821834349,2952996808,3210313671,3336571891,3584528711,113926993,338241895,666307205,773529912,1294757372,1396182291,1695183700,1986661051,2177026350,2456956037,2730485921,2820302411,3259730800,3345764771,3516065817,3600352804,4094571909,275423344,430227734,506948616,659060556,883997877,958139571,1322822218,1537002063,1747873779,1955562222,2024104815,2227730452,2361852424,2428436474,2756734187,3204031479,3329325298] : List Int).getD j.val 0=u (kL.getD j.val 0):=by decide +kernel
  rw [this ⟨j,hj⟩]
 exact ⟨Jy (hc 0 (by omega)),hc⟩
def J7 : Array Value:=uc kL
theorem text_le {H : Type} {ts : List TypeId} {ds : List (DataW H)} (hsz : (DataW.weightsEach Tryz.prog ts ds).all (· ≤ reachBytes)=true) {j : Nat} {s : ByteArray}
  (ht : ts[j]? = some 9) (hd : ds[j]? = some (.lit (.string s.data.toList))) : s.size≤140737488351232:=by
 have:=sized_string hsz ht hd
 simp only [reachBytes] at this
 simpa using this
theorem Md {α : Type} {p : Nat→α→Prop} : ∀ n : Nat,(∀ i,i<n→∃ a,p i a)→∃ l : List α,l.length=n∧∀ i (h : i<l.length),p i l[i]
 | 0,_=>⟨[],rfl,fun i h=>by simp at h⟩
 | n+1,h=>by
  obtain ⟨l,hl,hp⟩:=Md n (fun i hi=>h i (by omega))
  obtain ⟨a,ha⟩:=h n (by omega)
  refine ⟨l ++ [a],by simp [hl],fun i hi=>?_⟩
  simp at hi
  by_cases hin : i<l.length
  ·rw [List.getElem_append_left hin]; exact hp i hin
  ·obtain rfl : i=n:=by omega
   subst hl
   rw [List.getElem_append_right (by omega)]
   simpa using ha
theorem cellsS : Tryz.prog.cellsOf 9=1:=by kernel_rfl
end Go.Proofs.YtckejblkppllaaaGreatDoor
namespace Go.Proofs.YtckejblkppllaaaGreatDoor
open Go.RowKit
theorem Ko {σ : Tre} {p : List Bs} {n : Bs} {v : Val} (hp : At σ p) : At (Be σ p n v) p:=
 at_len p (fun q hq=>Po (fun e=>by rw [e] at hq; simp at hq; omega) (fun e=>by rw [e] at hq; omega)) hp
theorem layAll_snoc (σ : Tre) (p : List Bs) (l : List Ent) (x : Ent) : Dg σ p (l ++ [x])=Be (Dg σ p l) p x.1 x.2:=by
 unfold Dg
 rw [List.foldl_append]
 rfl
theorem Rep.drew {B : Nat} {w : World} {σ : Tre} {K M : List Bs→Nat} (h : Rep B w σ K M) : Rep B w.drew σ K M:=h.below (Nat.le_refl _) (Below.refl _ _).drew
theorem Nm (o : Option Nat) (W : World) : (Op.equal 73 (.map o) (.map none)).run Tryz.prog W = .ok (!o.isSome) W:=by
 show (Op.equalIn (9999+1) 73 _ _).run Tryz.prog W=_
 unfold Op.equalIn
 cases o <;> simp [run_underlying Tryz.underlying73,Result.andThen]
theorem map_eql (o : Option Nat) (W : World) : (binOp .eql 73 (.map o) (.map none)).run Tryz.prog W = .ok (.bool (!o.isSome)) W:=by
 simp only [binOp,Sem.run_bind,Nm,Result.andThen,Sem.run_pure]
theorem map_neq (o : Option Nat) (W : World) : (binOp .neq 73 (.map o) (.map none)).run Tryz.prog W = .ok (.bool o.isSome) W:=by
 simp only [binOp,Sem.run_bind,Nm,Result.andThen,Sem.run_pure,Bool.not_not]
theorem Fi {w : World} {a : Addr} {u : Value} (h : w.cell? a=some u) : a.block<w.heap.size:=Jy h
abbrev edB (c k : Nat) : Array Value:=#[Cf c,ptr k]
section
variable {B : Nat} {w : World} {σ : Tre} {K M : List Bs→Nat} {p : List Bs} {Bg c : Nat} {v : Value} {objs : List Ag} {g : Nat}
def IntoP (B : Nat) (w : World) (K : List Bs→Nat) (p : List Bs) (r : Int × Tre) (e : Ending) (w' : World) : Prop:=
 e = .returned (.int .i64 r.1)∧∃ K' M',Rep B w' r.2 K' M'∧Mv B plts none w w'∧∀ q : List Bs,q.length≤p.length→K' q=K q
set_option maxRecDepth 40000 in
set_option maxHeartbeats 1600000 in
theorem Ms (h : Rep B w σ K M) (hr : Bn σ) (hp : At σ p) (hG : Gf Bg w c v objs) (hBg : Bg≤B) (hB : B≤w.heap.size) (hg : w.heap[g]? = some (.cells (edB c (K [])) 89)) :
  Calls Tryz.prog 116 #[ptr g,ptr (K p)] w fun e w'=>IntoP B w K p (Cn (Aj objs) σ p) e w':=by
 have hh:=(h.place p hp).2
 unfold Cn
 by_cases hk : (σ.E p).1≠2
 ·rw [if_pos hk]
  have q0 : ((σ.E p).1 != 2)=true:=by simpa using hk
  have HR:=Ac (show IntoP B w K p (161,σ) (.returned (.int .i64 161)) w from ⟨rfl,K,M,h,Mv.refl _ _ _ _,fun _ _=>rfl⟩)
  unfold plC at hh
  have c1:=rc (i:=1) hh rfl
  clear h hh hk hg hG
  go_enter Tryz.func116,Tryz.ntmps116
  go_wp2
  go_ret
  exact HR.out
 ·rw [if_neg hk]
  have q0 : ((σ.E p).1 != 2)=false:=by simpa using hk
  cases hD : σ.D p with
  | some L=>
   simp only [Option.isSome_some,if_true]
   have hnm:=fun W=>map_neq (some (M p)) W
   simp only [Option.isSome_some] at hnm
   have HR:=Ac (show IntoP B w K p (0,σ) (.returned (.int .i64 0)) w from ⟨rfl,K,M,h,Mv.refl _ _ _ _,fun _ _=>rfl⟩)
   unfold plC at hh
   rw [D5 hD] at hh
   have c1:=rc (i:=1) hh rfl
   have c5:=rc (i:=5) hh rfl
   clear h hh hk hg hG
   go_enter Tryz.func116,Tryz.ntmps116
   go_wp2
   go_ret
   exact HR.out
  | none=>
   simp only [Option.isSome_none,Bool.false_eq_true,if_false]
   unfold plC at hh
   rw [Ga hD] at hh
   have c0:=rc (i:=0) hh rfl
   have c1:=rc (i:=1) hh rfl
   have c2:=rc (i:=2) hh rfl
   have c3:=rc (i:=3) hh rfl
   have c5:=rc (i:=5) hh rfl
   have g0:=rc (i:=0) hg rfl
   have hnm:=fun W=>map_neq none W
   simp only [Option.isSome_none] at hnm
   have hen:=tents_any w.drew Bg c v objs (hG.below (Below.refl _ _).drew) (show Bg≤w.heap.size by omega) (hdN p,σ.E p)
   have hfew:=entsE_few (Aj objs) (Fy hG.short) (hdN p,σ.E p)
   generalize Dt (Aj objs) (hdN p,σ.E p)=R at *
   obtain ⟨re,rl⟩:=R
   simp only at hen hfew ⊢
   by_cases hre : re≠0
   ·rw [if_pos hre]
    have q1 : (re != 0)=true:=by simpa using hre
    have HH:=Ac (And.intro h hB)
    clear h hh hk hg hG hre hD hB
    go_enter Tryz.func116,Tryz.ntmps116
    go_wp2_with fail
    refine wp_region_held_drew (S:=fun W=>W.cell? ⟨g,0,none⟩=some (Cf c)∧W.cell? ⟨K p,0,none⟩=some (.string (Ab (hdN p)))∧W.cell? ⟨K p,1,none⟩=some (.int .i64 (σ.E p).1)∧W.cell? ⟨K p,2,none⟩=some (.string (Ab (σ.E p).2.1))∧W.cell? ⟨K p,3,none⟩=some (.int .i64 (σ.E p).2.2)) (by kernel_rfl) (⟨g0,c0,c1,c2,c3⟩) (fun hHeld=>?_)
    refine Aa 0 hHeld ?_
    refine Aa 1 hHeld ?_
    refine Aa 2 hHeld ?_
    refine Aa 3 hHeld ?_
    refine Aa 4 hHeld ?_
    refine Aa 5 hHeld ?_
    refine Aa 6 hHeld ?_
    refine Aa 7 hHeld ?_
    refine Ai (i:=8) rfl (by kernel_rfl) rfl (fun K hK=>?_)
    go_simp
    refine hen.mono ?_
    rintro e w1 ⟨ve,rfl,hrow,hb1⟩
    obtain ⟨va,vm,vc,rfl⟩:=Av hrow
    refine hK.out _ _ (⟨(hb1.cell (Fi g0)).trans g0,(hb1.cell (Fi c0)).trans c0,(hb1.cell (Fi c1)).trans c1,(hb1.cell (Fi c2)).trans c2,(hb1.cell (Fi c3)).trans c3⟩) (fun hHeld=>?_)
    clear hK K
    try simp only [Act.put,List.setIfInBounds_toArray,List.set_cons_zero,List.set_cons_succ]
    refine Aa 9 hHeld ?_
    refine Aa 10 hHeld ?_
    refine Aa 11 hHeld ?_
    refine Aa 12 hHeld ?_
    refine Aa 13 hHeld ?_
    refine wpAnyH_done (by kernel_rfl) ?_ _
    have HF:=Ac (show IntoP B w K p (re,σ) (.returned (.int .i64 re)) w1 from ⟨rfl,K,M,HH.out.1.drew.below (Nat.le_refl _) hb1,(Mv.refl _ _ _ _).drew.more hb1 (show B≤w.heap.size from HH.out.2),fun _ _=>rfl⟩)
    clear hb1 hrow hen
    go_wp2
    go_ret
    exact HF.out
   ·rw [if_neg hre]
    have q1 : (re != 0)=false:=by simpa using hre
    obtain ⟨n,hn⟩ : ∃ n,n=rl.length:=⟨_,rfl⟩
    rw [← hn] at hfew
    have HN:=Ac hn
    have HH:=Ac (And.intro h (And.intro hB (And.intro hD hr)))
    have hpp:=hp
    clear h hh hk hg hG hre hD hB hn hr hp
    go_enter Tryz.func116,Tryz.ntmps116
    go_wp2_with fail
    refine wp_region_held_drew (S:=fun W=>W.cell? ⟨g,0,none⟩=some (Cf c)∧W.cell? ⟨K p,0,none⟩=some (.string (Ab (hdN p)))∧W.cell? ⟨K p,1,none⟩=some (.int .i64 (σ.E p).1)∧W.cell? ⟨K p,2,none⟩=some (.string (Ab (σ.E p).2.1))∧W.cell? ⟨K p,3,none⟩=some (.int .i64 (σ.E p).2.2)) (by kernel_rfl) (⟨g0,c0,c1,c2,c3⟩) (fun hHeld=>?_)
    refine Aa 0 hHeld ?_
    refine Aa 1 hHeld ?_
    refine Aa 2 hHeld ?_
    refine Aa 3 hHeld ?_
    refine Aa 4 hHeld ?_
    refine Aa 5 hHeld ?_
    refine Aa 6 hHeld ?_
    refine Aa 7 hHeld ?_
    refine Ai (i:=8) rfl (by kernel_rfl) rfl (fun K hK=>?_)
    go_simp
    refine hen.mono ?_
    rintro e w1 ⟨ve,rfl,hrow,hb1⟩
    obtain ⟨va,vc,hvv,-⟩:=Bj hrow
    rw [← HN.out] at hvv
    subst hvv
    refine hK.out _ _ (⟨(hb1.cell (Fi g0)).trans g0,(hb1.cell (Fi c0)).trans c0,(hb1.cell (Fi c1)).trans c1,(hb1.cell (Fi c2)).trans c2,(hb1.cell (Fi c3)).trans c3⟩) (fun hHeld=>?_)
    clear hK K
    try simp only [Act.put,List.setIfInBounds_toArray,List.set_cons_zero,List.set_cons_succ]
    refine Aa 9 hHeld ?_
    refine Aa 10 hHeld ?_
    refine Aa 11 hHeld ?_
    refine Aa 12 hHeld ?_
    refine Aa 13 hHeld ?_
    refine wpAnyH_done (by kernel_rfl) ?_ _
    have h1 : Rep B w1 σ K M:=HH.out.1.drew.below (Nat.le_refl _) hb1
    have hs1 : w.heap.size≤w1.heap.size:=hb1.size
    have hB1 : B≤w1.heap.size:=Nat.le_trans HH.out.2.1 hs1
    have hm1 : Mv B plts none w w1:=(Mv.refl _ _ _ _).drew.more hb1 HH.out.2.1
    have hx1:=(Mp.heap_past (.map #[] 0) (h1.place p hpp).2)
    unfold plC at hx1
    rw [Ga HH.out.2.2.1] at hx1
    have d5:=rc (i:=5) hx1 rfl
    have f5:=Af (j:=5) hx1
    obtain ⟨h2,hm2⟩:=h1.made hpp HH.out.2.2.1 hB1
    have hrow2 : Rw w.heap.size ((w1.alloc (.map #[] 0)).setCell ⟨K p,5,none⟩ (.map (some w1.heap.size))) 27 4 Dk (.slice va n vc) rl:=hm2.own0 (show Rw w.heap.size w1 27 4 Dk (.slice va n vc) rl from hrow) (by decide)
    have hmk : (Instr.makeMap 73 none).run Tryz.prog w1 = .ok (.map (some w1.heap.size)) (w1.alloc (.map #[] 0)):=by kernel_rfl
    have HL:=Ac (And.intro h2 (And.intro (hm1.trans hm2 (Nx.refl _ _)) hrow2))
    obtain ⟨w2,hw2⟩ : ∃ w2,w2=(w1.alloc (.map #[] 0)).setCell ⟨K p,5,none⟩ (.map (some w1.heap.size)):=⟨_,rfl⟩
    rw [← hw2] at HL
    clear hen c0 c1 c2 c3 c5 g0 hHeld hb1 h1 hm1 hx1 h2 hm2 hrow2 hrow hs1 hB1
    go_wp2_with fail
    try rw [← hw2]
    go_wp2_with fail
    go_loopw [41] (fun t wr=>∃ (k : Nat) (K' : List Bs→Nat) (L : List Bs),k≤n∧t = .int .i64 k∧Rep B wr (Dg (A9 σ p) p (rl.take k)) K' (upd M p w1.heap.size)∧(Dg (A9 σ p) p (rl.take k)).D p=some L∧Bn (Dg (A9 σ p) p (rl.take k))∧At (Dg (A9 σ p) p (rl.take k)) p∧Mv B plts none w wr∧Rw w.heap.size wr 27 4 Dk (.slice va n vc) rl∧∀ q : List Bs,q.length≤p.length→K' q=K q)
     (fun t _=>n - (intOf t).toNat)
    case atStart=>exact ⟨0,K,[],by omega,rfl,by simpa [Dg] using HL.out.1,by simp [Dg,A9,upd],by simpa [Dg] using HH.out.2.2.2.made p,by simpa [Dg] using (Fo HH.out.2.2.1 p).2 hpp,HL.out.2.1,HL.out.2.2,fun _ _=>rfl⟩
    case round=>
     obtain ⟨k,K',L,hk,rfl,hrep,hD,hr,hat,hmv,hrow,hKq⟩:=hrel
     have hBr : B≤wr.heap.size:=Nat.le_trans HH.out.2.1 hmv.size
     by_cases hlt : k<n
     ·have hlt2 : k<rl.length:=by have:=HN.out; omega
      obtain ⟨oa,oc,hov,-,-,hc⟩:=Bi Lu hrow
      obtain ⟨pb,off,rfl,hpb,hc⟩:=hc (by rintro rfl; simp at hlt2)
      obtain rfl : va=_:=by injection hov
      clear hov
      have e0:=hc k hlt2 0 _ rfl
      have e1:=hc k hlt2 1 _ rfl
      have e2:=hc k hlt2 2 _ rfl
      have e3:=hc k hlt2 3 _ rfl
      simp only [Nat.add_zero] at e0
      have htk : rl.take (k+1)=rl.take k ++ [rl[k]]:=by rw [List.take_add_one]; simp [hlt2]
      have hst:=layAll_snoc (A9 σ p) p (rl.take k) rl[k]
      rw [← htk] at hst
      generalize rl[k]=x at *
      generalize Dg (A9 σ p) p (rl.take k) = τ at *
      have hb3 : Below wr.heap.size wr (wr.alloc (.cells #[.string (Ab x.1), .int .i64 x.2.1, .string (Ab x.2.2.1), .int .i64 x.2.2.2] 27)):=(Below.refl _ _).alloc (Nat.le_refl _) _
      have hy:=heap_last wr (.cells #[.string (Ab x.1), .int .i64 x.2.1, .string (Ab x.2.2.1), .int .i64 x.2.2.2] 27) _ rfl
      have y0:=rc (i:=0) hy rfl
      have y1:=rc (i:=1) hy rfl
      have y2:=rc (i:=2) hy rfl
      have y3:=rc (i:=3) hy rfl
      have hcall:=Jz (hrep.below (Nat.le_refl _) hb3) hat hD (hr _ _ hD) (show B≤(wr.alloc (.cells #[.string (Ab x.1), .int .i64 x.2.1, .string (Ab x.2.2.1), .int .i64 x.2.2.2] 27)).heap.size by simp; omega) x.1 x.2
      rw [hKq p (Nat.le_refl _)] at hcall
      have HS:=Ac (And.intro hst (And.intro (hr.lay p x.1 x.2) (And.intro (Ko (n:=x.1) (v:=x.2) hat) (And.intro (hmv.more hb3 hBr) (And.intro (A0 hrow hb3) hKq)))))
      clear hst hrep hD hr hat hmv hrow hKq hc hy hb3 htk
      go_wp2_with fail
      refine hcall.mono ?_
      rintro e w4 ⟨k4,rfl,hr4,hm4,hk4⟩
      have HF:=Ac (And.intro hr4 (And.intro (HS.out.2.2.2.1.trans hm4 (Nx.refl _ _)) (hm4.own0 HS.out.2.2.2.2.1 (by decide))))
      clear hcall hr4 hm4
      go_wp2_with fail
      go_roundw
      case rel=>exact ⟨k+1,upd K' (x.1 :: p) k4,_,by omega,by go_num,by rw [HS.out.1]; exact HF.out.1,by rw [HS.out.1]; exact Ff,by rw [HS.out.1]; exact HS.out.2.1,by rw [HS.out.1]; exact HS.out.2.2.1,HF.out.2.1,HF.out.2.2,fun q hq=>(Bf (fun e=>by rw [e] at hq; simp at hq; omega)).trans (HS.out.2.2.2.2.2 q hq)⟩
      case measure=>simp [intOf]; omega
     ·have hkn : k=n:=by omega
      have hall : rl.take k=rl:=by rw [hkn,HN.out,List.take_length]
      rw [hall] at hrep
      have HF:=Ac (show IntoP B w K p (0,Dg (A9 σ p) p rl) (.returned (.int .i64 0)) wr from ⟨rfl,K',_,hrep,hmv,hKq⟩)
      have q5 : decide ((k : Int)<(n : Int))=false:=decide_eq_false (by omega)
      clear hrep hD hr hat hmv hrow hKq hall
      go_wp2
      go_ret
      exact HF.out
end
end Go.Proofs.YtckejblkppllaaaGreatDoor
namespace Go.Proofs.YtckejblkppllaaaGreatDoor
open Go.RowKit
def C6 (w : World) (t : TypeId) (v : Value) (xs : List Value) : Prop:=
 ∃ ao cap,v = .slice ao xs.length cap∧xs.length≤cap∧cap≤maxLen∧(xs ≠ []→∃ b off cs fr,ao=some ⟨b,off,none⟩∧w.heap[b]? = some (.cells cs t fr)∧∀ j (h : j<xs.length),cs[off+j]? = some (xs[j]'h))
theorem C6.mv {w w' : World} {t : TypeId} {v : Value} {xs : List Value} {B : Nat} {ts : List TypeId} (h : C6 w t v xs) (hm : Mv B ts none w w') (ht : t ∉ ts) : C6 w' t v xs:=by
 obtain ⟨ao,cap,h1,h2,h3,h4⟩:=h
 refine ⟨ao,cap,h1,h2,h3,fun hx=>?_⟩
 obtain ⟨b,off,cs,fr,g1,g2,g3⟩:=h4 hx
 exact ⟨b,off,cs,fr,g1,hm.k _ _ _ _ g2 ht (by simp),g3⟩
theorem C6.of_own {w : World} {B : Nat} {t : TypeId} {v : Value} {xs : List Value} (h : w.ownsRow B t 1 v xs.length xs) : C6 w t v xs:=by
 have hls : Ls w.heap.size w 1 (fun u : Value=>[u]) v xs:=by
  refine Bi (cs:=fun u : Value=>[u]) (base:=B) (t:=t) (fun _=>rfl) ?_
  rw [show xs.flatMap (fun u : Value=>[u])=xs by simp]
  exact h
 obtain ⟨ao,cap,h1,h2,h3,h4⟩:=hls
 refine ⟨ao,cap,h1,h2,h3,fun hx=>?_⟩
 obtain ⟨b,off,g1,g2,g3⟩:=h4 hx
 subst g1
 obtain ⟨c,fz,hk⟩:=Lib.ownsRow_kind h b (by rw [h1]; rfl)
 refine ⟨b,off,c,fz,rfl,hk,fun j hj=>?_⟩
 have:=g3 j hj 0 (xs[j]) (by simp)
 rw [cell_of_row _ _ _ _ _ _ hk] at this
 simpa using this
theorem Oj : ∀ (l : List Ent) {σ : Tre} (p : List Bs),Bn σ→Bn (Dg σ p l)
 | [],_,_,h=>h
 | x :: r,_,p,h=>Oj r p (h.lay p x.1 x.2)
theorem Bn.into {σ : Tre} (h : Bn σ) (fd : Bs→Option Bs) (p : List Bs) : Bn (Cn fd σ p).2:=by
 unfold Cn
 split
 ·exact h
 ·split
  ·exact h
  ·split
   ·exact h
   ·exact Oj _ p (h.made p)
theorem layAll_Dp : ∀ (l : List Ent) {σ : Tre} {p : List Bs} {L : List Bs},σ.D p=some L→∃ L',(Dg σ p l).D p=some L'
 | [],_,_,_,h=>⟨_,h⟩
 | _x :: r,_,p,_,_=>layAll_Dp r (p:=p) Ff
theorem Gt {fd : Bs→Option Bs} {σ : Tre} {p : List Bs} (h : (Cn fd σ p).1=0) : ∃ L,(Cn fd σ p).2.D p=some L:=by
 unfold Cn at h ⊢
 split
 ·rename_i h1; rw [if_pos h1] at h; cases h
 ·rename_i h1
  rw [if_neg h1] at h
  split
  ·rename_i h2
   cases hD : σ.D p with
   | none=>rw [hD] at h2; cases h2
   | some L=>exact ⟨L,rfl⟩
  ·rename_i h2
   rw [if_neg h2] at h
   split
   ·rename_i h3; rw [if_pos h3] at h; exact absurd h h3
   ·exact layAll_Dp _ (L:=[]) (by unfold A9; exact Bw)
theorem short_suf {p q : List Bs} (h : q.length<p.length) : ¬ p <:+ q:=fun e=>by have:=e.length_le; omega
theorem into_at {fd : Bs→Option Bs} {σ : Tre} {p : List Bs} (hp : At σ p) : At (Cn fd σ p).2 p:=
 at_len p (fun q hq=>by unfold Tre.names; rw [into_D_other (short_suf hq)]) hp
section
variable {B : Nat} {w : World} {σ : Tre} {K M : List Bs→Nat} {p : List Bs}
theorem zero_place (w : World) : (zeroValue 68).run Tryz.prog w = .ok (.pointer none) w:=by kernel_rfl
theorem I1 (h : Rep B w σ K M) (hp : At σ p) {L : List Bs} (hD : σ.D p=some L) {n : Bs} (hn : n∈L) (c : Bool) :
  (Instr.lookup 73 (.map (some (M p))) (.string (Ab n)) c).run Tryz.prog w = .ok (if c then .tuple #[ptr (K (n :: p)), .bool true] else ptr (K (n :: p))) w:=by
 have h2:=(h.map p L hp hD).2.perm ((List.perm_cons_erase hn).map (C9 K p))
 rw [List.map_cons] at h2
 exact Mp.MapW.look (x:=.string (Ab n)) h2 (G6 w) (fun q hq=>Hr K p (n :: L.erase n) q (by rw [List.map_cons]; exact List.mem_cons_of_mem _ hq)) Tryz.underlying73 ⟨_,rfl⟩ c
theorem Lj (h : Rep B w σ K M) (hp : At σ p) {L : List Bs} (hD : σ.D p=some L) {n : Bs} (hn : n ∉ L) (c : Bool) :
  (Instr.lookup 73 (.map (some (M p))) (.string (Ab n)) c).run Tryz.prog w = .ok (if c then .tuple #[.pointer none, .bool false] else .pointer none) w:=
 (h.map p L hp hD).2.look_none (G6 w) (Hr K p L) Tryz.underlying73 ⟨_,rfl⟩ (kid_ne hn) (zero_place w) c
end
section
variable {B : Nat} {w : World} {σ : Tre} {K M : List Bs→Nat} {Bg c : Nat} {v : Value} {objs : List Ag} {g : Nat}
def ComeP (B : Nat) (w : World) (K : List Bs→Nat) (r : Int × (Tre × List Bs)) (e : Ending) (w' : World) : Prop:=
 ∃ vp K' M',e = .returned (.tuple #[vp, .int .i64 r.1])∧Rep B w' r.2.1 K' M'∧Bn r.2.1∧Mv B plts none w w'∧K' []=K [] ∧
  (r.1=0→vp=ptr (K' r.2.2)∧At r.2.1 r.2.2∧∃ L,r.2.1.D r.2.2=some L)
def ComeW (fd : Bs→Option Bs) (find : Bool) (B : Nat) (w : World) (K : List Bs→Nat) (ns : List Bs) (R : Int × (Tre × List Bs)) (k : Nat) (t8 t9 : Value) (wr : World) : Prop:=
 ∃ (er : Int) (τ : Tre) (q : List Bs) (K' M' : List Bs→Nat),t8=ptr (K' q)∧t9 = .int .i64 er∧R=Cw fd find (ns.drop k) (er,τ) q∧Rep B wr τ K' M'∧Bn τ∧At τ q∧Mv B plts none w wr∧K' []=K []∧(er=0→∃ L,τ.D q=some L)
set_option maxRecDepth 40000 in
set_option maxHeartbeats 1600000 in
theorem comeTo_any (h : Rep B w σ K M) (hr : Bn σ) (hG : Gf Bg w c v objs) (hBg : Bg≤B) (hB : B≤w.heap.size) (hg : w.heap[g]? = some (.cells (edB c (K [])) 89)) (ns : List Bs) (vn : Value) (hvn : C6 w 9 vn (ns.map fun n=>.string (Ab n))) (hns : ns.length≤16) (find : Bool) :
  Calls Tryz.prog 72 #[ptr g,vn, .bool find] w fun e w'=>ComeP B w K (Cw (Aj objs) find ns (Cn (Aj objs) σ []) []) e w':=by
 obtain ⟨R,hR⟩ : ∃ R,R=Cw (Aj objs) find ns (Cn (Aj objs) σ []) []:=⟨_,rfl⟩
 rw [← hR]
 obtain ⟨n,hn⟩ : ∃ n,n=ns.length:=⟨_,rfl⟩
 obtain ⟨na,nc,hv,hn2,hn3,hcells⟩:=hvn
 rw [List.length_map] at hv hn2
 rw [← hn] at hv hn2 hns
 subst hv
 have g1:=rc (i:=1) hg rfl
 have hin:=Ms h hr (p:=[]) trivial hG hBg hB hg
 have hri:=hr.into (Aj objs) []
 have hDi:=fun e=>Gt (fd:=Aj objs) (σ:=σ) (p:=[]) e
 generalize Cn (Aj objs) σ []=I at *
 have HN:=Ac (And.intro hn (And.intro hR (And.intro hri (And.intro hDi (And.intro hG (And.intro hg (And.intro hBg hB)))))))
 have HC:=Ac hcells
 clear hn hR hri hDi hG hg h hBg hB hcells hr hn3
 go_enter Tryz.func72,Tryz.ntmps72
 go_wp2_with fail
 refine hin.mono ?_
 rintro e w1 ⟨rfl,K1,M1,hrep1,hmv1,hK1⟩
 have hst : ComeW (Aj objs) find B w K ns R 0 (ptr (K [])) (.int .i64 I.1) w1:=
  ⟨I.1,I.2,[],K1,M1,by rw [hK1 [] (Nat.le_refl _)],rfl,HN.out.2.1,hrep1,HN.out.2.2.1,trivial,hmv1,hK1 [] (Nat.le_refl _),HN.out.2.2.2.1⟩
 have HS:=Ac hst
 clear hin hrep1 hmv1 hK1 hst
 go_wp2_with fail
 go_loopw [8,9,23] (fun t8 t9 t wr=>∃ k : Nat,k≤n∧t = .int .i64 k∧ComeW (Aj objs) find B w K ns R k t8 t9 wr)
  (fun _ _ t _=>n - (intOf t).toNat)
 case atStart=>exact ⟨0,by omega,rfl,HS.out⟩
 case round=>
  obtain ⟨k,hk,rfl,er,τ,q,K',M',rfl,rfl,hRk,hrep,hri,hat,hmv,hK0,hD0⟩:=hrel
  have hBr : B≤wr.heap.size:=Nat.le_trans HN.out.2.2.2.2.2.2.2 hmv.size
  by_cases hlt : k<n
  ·have hlt2 : k<ns.length:=by have:=HN.out.1; omega
   obtain ⟨pb,off,cs,fr,rfl,hblk,hcs⟩:=HC.out (by intro e; rw [List.map_eq_nil_iff] at e; rw [e] at hlt2; simp at hlt2)
   have hx0:=rc (hmv.k _ _ _ _ hblk (by decide) (by simp)) (hcs k (by simpa using hlt2))
   simp only [List.getElem_map] at hx0
   have hdr : ns.drop k=ns[k] :: ns.drop (k+1):=List.drop_eq_getElem_cons hlt2
   generalize ns[k]=x at *
   rw [hdr,Cw] at hRk
   simp only at hRk
   clear hcs hblk hdr
   by_cases her : er≠0
   ·rw [if_pos her] at hRk
    have q1 : (er != 0)=true:=by simpa using her
    have HF:=Ac (show ComeP B w K R (.returned (.tuple #[.pointer none, .int .i64 er])) wr by
     rw [hRk]
     exact ⟨_,K',M',rfl,hrep,hri,hmv,hK0,fun e=>absurd e her⟩)
    clear hRk hrep hri hat hmv hK0 hD0 her
    go_wp2
    go_ret2
    exact HF.out
   ·rw [if_neg her] at hRk
    obtain rfl : er=0:=by simpa using her
    have q1 : ((0 : Int) != 0)=false:=rfl
    obtain ⟨L,hD⟩:=hD0 rfl
    rw [C2 hD] at hRk
    have hh:=(hrep.place q hat).2
    unfold plC at hh
    rw [D5 hD] at hh
    have c5:=rc (i:=5) hh rfl
    clear hh her hD0
    by_cases hx : x∈L
    ·rw [if_pos hx] at hRk
     have hlk:=I1 hrep hat hD hx true
     simp only [if_true] at hlk
     have hatx : At τ (x :: q):=⟨hat,by rw [C2 hD]; exact hx⟩
     have hgr:=hmv.k _ _ _ _ HN.out.2.2.2.2.2.1 (by decide) (by simp)
     rw [← hK0] at hgr
     have hcall:=Ms hrep hri hatx (HN.out.2.2.2.2.1.below (hmv.b.mono HN.out.2.2.2.2.2.2.1)) HN.out.2.2.2.2.2.2.1 hBr hgr
     have hri2:=hri.into (Aj objs) (x :: q)
     have hat2:=into_at (fd:=Aj objs) hatx
     have hD2:=fun e=>Gt (fd:=Aj objs) (σ:=τ) (p:=x :: q) e
     generalize Cn (Aj objs) τ (x :: q)=I2 at *
     have HF:=Ac (And.intro hRk (And.intro hri2 (And.intro hat2 (And.intro hD2 (And.intro hmv hK0)))))
     clear hRk hri2 hat2 hD2 hmv hK0 hrep hri hat hD hx hatx hgr
     go_wp2_with fail
     refine hcall.mono ?_
     rintro e w4 ⟨rfl,K4,M4,hrep4,hmv4,hK4⟩
     have HG:=Ac (show ComeW (Aj objs) find B w K ns R (k+1) (ptr (K' (x :: q))) (.int .i64 I2.1) w4 from
      ⟨I2.1,I2.2,x :: q,K4,M4,by rw [hK4 _ (Nat.le_refl _)],rfl,HF.out.1,hrep4,HF.out.2.1,HF.out.2.2.1,HF.out.2.2.2.2.1.trans hmv4 (Nx.refl _ _),(hK4 [] (by simp)).trans HF.out.2.2.2.2.2,HF.out.2.2.2.1⟩)
     clear hcall hrep4 hmv4 hK4 c5 hlk
     go_wp2_with fail
     go_roundw
     case rel=>exact ⟨k+1,by omega,by go_num,HG.out⟩
     case measure=>simp [intOf]; omega
    ·rw [if_neg hx] at hRk
     have hlk:=Lj hrep hat hD hx true
     simp only [if_true] at hlk
     cases find with
     | true=>
      rw [if_pos rfl] at hRk
      have HF:=Ac (show ComeP B w K R (.returned (.tuple #[.pointer none, .int .i64 160])) wr by
       rw [hRk]
       exact ⟨_,K',M',rfl,hrep,hri,hmv,hK0,fun e=>absurd e (by simp)⟩)
      clear hRk hrep hri hat hmv hK0 hD hx
      go_wp2
      go_ret2
      exact HF.out
     | false=>
      rw [if_neg (by simp)] at hRk
      have hcall:=Jz hrep hat hD (hri _ _ hD) hBr x newD
      have hri2:=hri.lay q x newD
      have hatp : At (Be τ q x newD) (x :: q):=⟨Ko hat,by rw [C2 Ff]; exact (Gq x x _).2 (.inl rfl)⟩
      have hDn : (Be τ q x newD).D (x :: q)=none:=Ez
      have hne : upd K' (x :: q)=upd K' (x :: q):=rfl
      have HF:=Ac (And.intro hRk (And.intro hri2 (And.intro hatp (And.intro hDn (And.intro hmv (And.intro hK0 hBr))))))
      have hnew : E0 (x,newD) = .agg #[.string (Ab x), .int .i64 2, .string ⟨#[]⟩, .int .i64 0]:=rfl
      rw [hnew] at hcall
      clear hRk hri2 hatp hDn hmv hK0 hrep hri hat hD hx hne hnew hBr
      go_wp2_with fail
      refine hcall.mono ?_
      rintro e w4 ⟨k4,rfl,hrep4,hmv4,hk4⟩
      have hB4 : B≤w4.heap.size:=Nat.le_trans HF.out.2.2.2.2.2.2 hmv4.size
      obtain ⟨h5,hm5⟩:=hrep4.made HF.out.2.2.1 HF.out.2.2.2.1 hB4
      have hh:=Mp.heap_past (.map #[] 0) (hrep4.place _ HF.out.2.2.1).2
      unfold plC at hh
      rw [Ga HF.out.2.2.2.1] at hh
      simp only [Bw] at h5 hm5 hh
      have d5:=rc (i:=5) hh rfl
      have f5:=Af (j:=5) hh
      have hmk : (Instr.makeMap 73 none).run Tryz.prog w4 = .ok (.map (some w4.heap.size)) (w4.alloc (.map #[] 0)):=by kernel_rfl
      have HG:=Ac (show ComeW (Aj objs) false B w K ns R (k+1) (ptr k4) (.int .i64 0) ((w4.alloc (.map #[] 0)).setCell ⟨k4,5,none⟩ (.map (some w4.heap.size))) from
       ⟨0,_,x :: q,_,_,by rw [Bw],rfl,HF.out.1,h5,HF.out.2.1.made _,(Fo HF.out.2.2.2.1 _).2 HF.out.2.2.1,(HF.out.2.2.2.2.1.trans hmv4 (Nx.refl _ _)).trans hm5 (Nx.refl _ _),(Bf (by simp)).trans HF.out.2.2.2.2.2.1,fun _=>⟨[],by unfold A9; exact Bw⟩⟩)
      clear hcall hrep4 hmv4 h5 hm5 hh c5 hlk hB4
      go_wp2_with fail
      go_roundw
      case rel=>exact ⟨k+1,by omega,by go_num,HG.out⟩
      case measure=>simp [intOf]; omega
  ·have hkn : k=n:=by omega
   have hall : ns.drop k = []:=by rw [List.drop_eq_nil_iff]; have:=HN.out.1; omega
   rw [hall,Cw] at hRk
   have HF:=Ac (show ComeP B w K R (.returned (.tuple #[ptr (K' q), .int .i64 er])) wr by
    rw [hRk]
    exact ⟨_,K',M',rfl,hrep,hri,hmv,hK0,fun e=>⟨rfl,hat,hD0 e⟩⟩)
   have q5 : decide ((k : Int)<(n : Int))=false:=decide_eq_false (by omega)
   clear hRk hrep hri hat hmv hK0 hD0 hall
   go_wp2
   go_ret2
   exact HF.out
end
end Go.Proofs.YtckejblkppllaaaGreatDoor
namespace Go.Proofs.YtckejblkppllaaaGreatDoor
open Go.RowKit
abbrev edAg (x : EdP) : Value:=.agg #[.string (Ab x.1), .string (Ab x.2.1), .int .i64 x.2.2.1, .bool x.2.2.2]
theorem Tryz.eqPartY : Tryz.prog.underlying 60=some (.struct (Tryz.prog.fieldsOf 60))∧Tryz.prog.stoodInHeld 60=false∧Tryz.prog.eqGuardType Tryz.prog.depth 60=false:=⟨by kernel_rfl,by kernel_rfl,by kernel_rfl⟩
theorem eql_nilPart (W : World) (id : Bs) (n : Int) : (binOp .eql 60 (.agg #[.string (Ab id), .int .i64 n]) (.agg #[.string ⟨#[]⟩, .int .i64 0])).run Tryz.prog W = .ok (.bool (decide (id = []∧n=0))) W:=by
 obtain ⟨h1,h2,h3⟩:=Tryz.eqPartY
 rw [run_eql_struct,run_equalIn_agg _ _ _ _ _ h1 h2]
 simp only [Program.fieldsOf,Tryz.underlying60]
 have e0 : (⟨#[]⟩ : ByteArray)=Ab []:=rfl
 rw [e0]
 by_cases q0 : id = [] <;> by_cases q1 : n=0 <;> simp [Op.eqFields,go_sem,Tryz.underlying9,Tryz.underlying2,toL,q0,q1]
set_option maxRecDepth 20000 in
set_option maxHeartbeats 800000 in
theorem isRight_any (w : World) (x : EdP) :
  Calls Tryz.prog 71 #[edAg x] w fun e w'=>e = .returned (.bool (F5 x))∧Below w.heap.size w w':=by
 obtain ⟨p,id,size,gone⟩:=x
 have hb : Below w.heap.size w (w.alloc (.cells #[.string (Ab p), .string (Ab id), .int .i64 size, .bool gone] 64)):=(Below.refl _ _).alloc (Nat.le_refl _) _
 have hs:=A1 id
 unfold F5
 cases gone with
 | true=>
  have hq:=fun W=>eql_nilPart W id size
  simp only [if_true]
  go_enter Tryz.func71,Tryz.ntmps71
  go_wp2
  go_ret
  exact ⟨Al (by simp),hb⟩
 | false=>
  simp only [Bool.false_eq_true,if_false]
  by_cases h1 : id.length=32
  ·by_cases h2 : 0≤size
   ·have q2 : decide (0≤size)=true:=decide_eq_true h2
    by_cases h3 : size≤262144
    ·have q3 : decide (size≤262144)=true:=decide_eq_true h3
     go_enter Tryz.func71,Tryz.ntmps71
     go_wp2
     go_ret
     exact ⟨Al (by simp [h1,h2,h3]),hb⟩
    ·have q3 : decide (size≤262144)=false:=decide_eq_false h3
     go_enter Tryz.func71,Tryz.ntmps71
     go_wp2
     go_ret
     exact ⟨Al (by simp),hb⟩
   ·have q2 : decide (0≤size)=false:=decide_eq_false h2
    go_enter Tryz.func71,Tryz.ntmps71
    go_wp2
    go_ret
    exact ⟨Al (by simp),hb⟩
  ·have q1 : (((id.length : Nat) : Int) == 32)=false:=by simp; omega
   go_enter Tryz.func71,Tryz.ntmps71
   go_wp2
   go_ret
   exact ⟨Al (by simp [h1]),hb⟩
section
variable {B : Nat} {w : World} {σ : Tre} {K M : List Bs→Nat} {p : List Bs}
def DoP (B : Nat) (w : World) (K : List Bs→Nat) (r : Int × Tre) (e : Ending) (w' : World) : Prop:=
 e = .returned (.int .i64 r.1)∧(∃ K' M',Rep B w' r.2 K' M'∧K' []=K [])∧Bn r.2∧Mv B plts none w w'
theorem Bn.away : ∀ (p : List Bs) {σ : Tre},Bn σ→Bn (Eb σ p)
 | [],_,h=>h
 | n :: p,σ,h=>by
  rw [G1]
  split
  ·exact Bn.away p (h.cut p n)
  ·exact h.cut p n
set_option maxRecDepth 20000 in
set_option maxHeartbeats 800000 in
theorem takeOut_any (h : Rep B w σ K M) (hr : Bn σ) (hp : At σ p) {L : List Bs} (hD : σ.D p=some L) (hB : B≤w.heap.size) (n : Bs) :
  Calls Tryz.prog 73 #[ptr (K p), .string (Ab n)] w fun e w'=>DoP B w K (if n ∈ σ.names p then (0,Eb σ (n :: p)) else (160,σ)) e w':=by
 have hh:=(h.place p hp).2
 unfold plC at hh
 rw [D5 hD] at hh
 have c5:=rc (i:=5) hh rfl
 rw [C2 hD]
 by_cases hn : n∈L
 ·rw [if_pos hn]
  have hlk:=I1 h hp hD hn true
  simp only [if_true] at hlk
  have hta:=takeAway_any p B w σ K M n h hr hp (by rw [C2 hD]; exact hn) hB
  have HR:=Ac (hr.away (n :: p))
  clear h hr hp hD hh hn
  go_enter Tryz.func73,Tryz.ntmps73
  go_wp2_with fail
  refine hta.mono ?_
  rintro e w1 ⟨rfl,hrep,hmv⟩
  have HF:=Ac (show DoP B w K (0,Eb σ (n :: p)) (.returned (.int .i64 0)) w1 from ⟨rfl,⟨K,M,hrep,rfl⟩,HR.out,hmv.types (by simp)⟩)
  clear hta hrep hmv
  go_wp2
  go_ret
  exact HF.out
 ·rw [if_neg hn]
  have hlk:=Lj h hp hD hn true
  simp only [if_true] at hlk
  have HF:=Ac (show DoP B w K (160,σ) (.returned (.int .i64 160)) w from ⟨rfl,⟨K,M,h,rfl⟩,hr,Mv.refl _ _ _ _⟩)
  clear h hr hp hD hh hn
  go_enter Tryz.func73,Tryz.ntmps73
  go_wp2
  go_ret
  exact HF.out
set_option maxRecDepth 20000 in
set_option maxHeartbeats 800000 in
theorem layFile_any (h : Rep B w σ K M) (hr : Bn σ) (hp : At σ p) {L : List Bs} (hD : σ.D p=some L) (hB : B≤w.heap.size) (n id : Bs) (size : Int) :
  Calls Tryz.prog 74 #[ptr (K p), .string (Ab n), .agg #[.string (Ab id), .int .i64 size]] w fun e w'=>DoP B w K (if n ∈ σ.names p∧(σ.E (n :: p)).1=2 then (162,σ) else (0,Be σ p n (1,id,size))) e w':=by
 have hb0 : Below w.heap.size w (w.alloc (.cells #[.string (Ab id), .int .i64 size] 60)):=(Below.refl _ _).alloc (Nat.le_refl _) _
 have hx0:=heap_last w (.cells #[.string (Ab id), .int .i64 size] 60) _ rfl
 have hs0 : (w.alloc (.cells #[.string (Ab id), .int .i64 size] 60)).heap.size=w.heap.size+1:=by simp
 have h0:=h.below (Nat.le_refl _) hb0
 have hm0 : Mv B plts none w (w.alloc (.cells #[.string (Ab id), .int .i64 size] 60)):=Mv.of hb0 hB
 generalize hw0 : w.alloc (.cells #[.string (Ab id), .int .i64 size] 60)=w0 at *
 have x0:=rc (i:=0) hx0 rfl
 have x1:=rc (i:=1) hx0 rfl
 have hh:=(h0.place p hp).2
 unfold plC at hh
 rw [D5 hD] at hh
 have c5:=rc (i:=5) hh rfl
 rw [C2 hD]
 have hcall:=Jz h0 hp hD (hr _ _ hD) (show B≤w0.heap.size by omega) n (1,id,size)
 have HR:=Ac (hr.lay p n (1,id,size))
 have hend : ∀ e w1 k,Rep B w1 (Be σ p n (1,id,size)) (upd K (n :: p) k) M→Mv B plts none w0 w1→e = .returned (.int .i64 0)→DoP B w K (0,Be σ p n (1,id,size)) e w1:=fun e w1 k g1 g2 g3=>⟨g3,⟨_,_,g1,Bf (by simp)⟩,HR.out,hm0.trans g2 (Nx.refl _ _)⟩
 have HE:=Ac hend
 by_cases hn : n∈L
 ·have hlk:=I1 h0 hp hD hn true
  simp only [if_true] at hlk
  have hat : At σ (n :: p):=⟨hp,by rw [C2 hD]; exact hn⟩
  have hk:=(h0.place _ hat).2
  unfold plC at hk
  have k1:=rc (i:=1) hk rfl
  by_cases hki : (σ.E (n :: p)).1=2
  ·rw [if_pos ⟨hn,hki⟩]
   have q1 : ((σ.E (n :: p)).1 == 2)=true:=by simpa using hki
   have HF:=Ac (show DoP B w K (162,σ) (.returned (.int .i64 162)) w0 from ⟨rfl,⟨K,M,h0,rfl⟩,hr,hm0⟩)
   clear h h0 hr hp hD hh hn hend hcall hat hk hki hb0 hx0 hm0 hs0
   go_enter Tryz.func74,Tryz.ntmps74
   go_wp2_with fail
   try rw [hw0]
   go_wp2
   go_ret
   exact HF.out
  ·rw [if_neg (fun e=>hki e.2)]
   have q1 : ((σ.E (n :: p)).1 == 2)=false:=by simpa using hki
   clear h h0 hr hp hD hh hn hend hat hk hki hb0 hx0 hm0 hs0
   go_enter Tryz.func74,Tryz.ntmps74
   go_wp2_with fail
   try rw [hw0]
   go_wp2_with fail
   refine hcall.mono ?_
   rintro e w1 ⟨k,rfl,g1,g2,-⟩
   have HF:=Ac (HE.out _ w1 k g1 g2 rfl)
   clear hcall g1 g2
   go_wp2
   go_ret
   exact HF.out
 ·rw [if_neg (fun e=>hn e.1)]
  have hlk:=Lj h0 hp hD hn true
  simp only [if_true] at hlk
  clear h h0 hr hp hD hh hn hend hb0 hx0 hm0 hs0
  go_enter Tryz.func74,Tryz.ntmps74
  go_wp2_with fail
  try rw [hw0]
  go_wp2_with fail
  refine hcall.mono ?_
  rintro e w1 ⟨k,rfl,g1,g2,-⟩
  have HF:=Ac (HE.out _ w1 k g1 g2 rfl)
  clear hcall g1 g2
  go_wp2
  go_ret
  exact HF.out
theorem parseT_ok (w : World) (l : Bs) (hl : l.length≤4611686018427387000) (h : Pa.Pt.path l=true) :
  Calls Tryz.prog 53 #[.string (Ab l)] w fun e w'=>∃ v,e = .returned (.tuple #[v, .int .i64 0])∧C6 w' 9 v ((Pa.Pt.parts l).map fun n=>.string (Ab n))∧Below w.heap.size w w':=
 (Pa.parse_ok w l hl h).mono fun _ _ ⟨v,h1,h2,h3⟩=>⟨v,h1,C6.of_own (by
  have e : Pa.tc (Pa.Pt.parts l)=(Pa.Pt.parts l).map fun n=>.string (Ab n):=rfl
  rw [e] at h2
  rw [List.length_map]
  exact h2),h3⟩
theorem Ni (w : World) (l : Bs) (hl : l.length≤4611686018427387000) (h : Pa.Pt.path l=false) :
  Calls Tryz.prog 53 #[.string (Ab l)] w fun e w'=>e = .returned (.tuple #[.slice none 0 0, .int .i64 40])∧Below w.heap.size w w':=Pa.parse_bad w l hl h
end
end Go.Proofs.YtckejblkppllaaaGreatDoor
namespace Go.Proofs.YtckejblkppllaaaGreatDoor
open Go.RowKit
theorem Mt {fd : Bs→Option Bs} {d : Val} {n : Bs} (h : (Ed fd d n).1=0) : (Ed fd d n).2.1=n:=by
 unfold Ed at h ⊢
 split
 ·rename_i h1; rw [if_pos h1] at h; cases h
 ·rename_i h1
  rw [if_neg h1] at h
  split
  ·rename_i h2; rw [if_pos h2] at h; exact absurd h h2
  ·rename_i h2
   rw [if_neg h2] at h
   split
   ·rename_i h3; rw [if_pos h3] at h; cases h
   ·rename_i h3
    rw [if_neg h3] at h
    unfold E5 at h ⊢
    cases ht : Dc n (Cq fd d.2.1 n []).1 with
    | none=>rw [ht] at h; cases h
    | some v=>rfl
def GoPW (fd : Bs→Option Bs) (B : Nat) (w : World) (ns : List Bs) (R : Int × Ent) (i : Nat) (t : Value) (wr : World) : Prop:=
 ∃ k x up,t = .pointer (some ⟨k,0,none⟩)∧R=goE fd (ns.drop i) x∧wr.heap[k]? = some (.cells (Em x up (.map none)) 75)∧Stand B wr k (ns.take i).reverse∧Below B w wr
set_option maxRecDepth 40000 in
set_option maxHeartbeats 1600000 in
theorem goTo_any (w : World) (B c : Nat) (v : Value) (objs : List Ag) (hG : Gf B w c v objs) (hB : B≤w.heap.size) (root at_ : Bs) (hr : root.length≤140737488355328) (ha : at_.length≤4611686018427387000) :
  Calls Tryz.prog 30 #[.agg #[Cf c], .string (Ab root), .string (Ab at_)] w fun e w'=>goToP w.heap.size w' (Cp (Aj objs) root at_) (Pa.Pt.parts at_).reverse e∧Below w.heap.size w w':=by
 have hb0 : Below w.heap.size w (w.alloc (.cells #[Cf c] 71)):=(Below.refl _ _).alloc (Nat.le_refl _) _
 have hr0:=heap_last w (.cells #[Cf c] 71) _ rfl
 have hs0 : (w.alloc (.cells #[Cf c] 71)).heap.size=w.heap.size+1:=by simp
 generalize hw0 : w.alloc (.cells #[Cf c] 71)=w0 at *
 unfold Cp
 by_cases hp : Pa.Pt.path at_=false
 ·rw [if_pos hp]
  have hpa:=Ni w0 at_ ha hp
  have HB:=Ac (And.intro hb0 hs0)
  clear hb0 hr0 hs0 hp hG
  go_enter Tryz.func30,Tryz.ntmps30
  go_wp2_with fail
  try rw [hw0]
  go_wp2_with fail
  refine hpa.mono ?_
  rintro e w1 ⟨rfl,hb1⟩
  have HF:=Ac (HB.out.1.trans (hb1.mono HB.out.1.size))
  clear hpa hb1
  go_wp2
  go_ret2
  exact ⟨by unfold goToP; rw [if_pos (by simp)]; rfl,HF.out⟩
 ·rw [if_neg hp]
  have hpt : Pa.Pt.path at_=true:=by simpa using hp
  have hpa:=parseT_ok w0 at_ ha hpt
  have hfl:=Pa.Pt.few_len hpt
  have hnk:=fun n hn=>name_key (I4 hpt n hn)
  generalize Pa.Pt.parts at_=ns at *
  obtain ⟨n,hn⟩ : ∃ n,n=ns.length:=⟨_,rfl⟩
  rw [← hn] at hfl
  have hro:=fun W=>Mf W root hr
  have hnf:=fun W=>eql_nilG W c
  obtain ⟨R,hR⟩ : ∃ R,R=goE (Aj objs) ns (rootE root):=⟨_,rfl⟩
  have HN:=Ac (And.intro hn (And.intro hR (And.intro hb0 (And.intro hr0 (And.intro hG (And.intro hnk hs0))))))
  rw [← hR]
  clear hn hR hb0 hr0 hG hnk hp hs0
  go_enter Tryz.func30,Tryz.ntmps30
  go_wp2_with fail
  try rw [hw0]
  go_wp2_with fail
  refine hpa.mono ?_
  rintro e w1 ⟨vn,rfl,hvn,hb1⟩
  have hvn':=hvn
  obtain ⟨na,nc,rfl,hnc,-,hcells⟩:=hvn'
  rw [List.length_map,← HN.out.1]
  have hr1:=(hb1.block _ (Ad HN.out.2.2.2.1)).trans HN.out.2.2.2.1
  have r0:=rc (i:=0) hr1 rfl
  have HV:=Ac (And.intro hcells (And.intro hb1 hr1))
  clear hpa hvn hcells hb1 hr1 hnc
  go_wp2_with fail
  refine (hro w1).mono ?_
  rintro e w2 ⟨k,rfl,hk,hpl,hb2⟩
  have hB2:=HN.out.2.2.1.trans ((HV.out.2.1.mono HN.out.2.2.1.size).trans (hb2.mono (Nat.le_trans HN.out.2.2.1.size HV.out.2.1.size)))
  have hkw : w.heap.size≤k:=Nat.le_trans (Nat.le_trans HN.out.2.2.1.size HV.out.2.1.size) hk
  have HS:=Ac (show GoPW (Aj objs) w.heap.size w ns R 0 (.pointer (some ⟨k,0,none⟩)) w2 from ⟨k,rootE root, .pointer none,rfl,HN.out.2.1,hpl,⟨hkw,_,_,hpl⟩,hB2⟩)
  have HX:=Ac (And.intro ((hb2.block _ (Ad HV.out.2.2)).trans HV.out.2.2) (And.intro hb2 hB2))
  clear hro hpl hb2 hB2 r0
  go_wp2_with fail
  go_loopw [10,30] (fun t10 t wr=>∃ i : Nat,i≤n∧t = .int .i64 i∧GoPW (Aj objs) w.heap.size w ns R i t10 wr∧Below w2.heap.size w2 wr)
   (fun _ t _=>n - (intOf t).toNat)
  case atStart=>exact ⟨0,by omega,rfl,HS.out,Below.refl _ _⟩
  case round=>
   obtain ⟨i,hi,rfl,⟨k1,x,up,rfl,hRi,hpl,hsd,hbw⟩,hb2r⟩:=hrel
   by_cases hlt : i<n
   ·have hlt2 : i<ns.length:=by have:=HN.out.1; omega
    obtain ⟨pb,off,cs,fr,rfl,hblk,hcs⟩:=HV.out.1 (by intro e; rw [List.map_eq_nil_iff] at e; rw [e] at hlt2; simp at hlt2)
    have hblk2:=(HX.out.2.1.block _ (Ad hblk)).trans hblk
    have hx0:=rc ((hb2r.block _ (Ad hblk2)).trans hblk2) (hcs i (by simpa using hlt2))
    simp only [List.getElem_map] at hx0
    have hdr : ns.drop i=ns[i] :: ns.drop (i+1):=List.drop_eq_getElem_cons hlt2
    have htk : (ns.take (i+1)).reverse=ns[i] :: (ns.take i).reverse:=by rw [List.take_succ_eq_append_getElem hlt2,List.reverse_append]; rfl
    have hky:=HN.out.2.2.2.2.2.1 ns[i] (List.getElem_mem hlt2)
    generalize ns[i]=m at *
    rw [hdr,goE] at hRi
    have r1:=(hb2r.block _ (Ad HX.out.1)).trans HX.out.1
    have r0:=rc (i:=0) r1 rfl
    unfold Em at hpl
    have p0:=rc (i:=0) hpl rfl
    have p1:=rc (i:=1) hpl rfl
    have p2:=rc (i:=2) hpl rfl
    have p3:=rc (i:=3) hpl rfl
    have hfi:=fun (W : World) (hW : Below wr.heap.size wr W)=>tfind_any W B c v objs (HN.out.2.2.2.2.1.below ((hbw.mono hB).trans (hW.mono (Nat.le_trans hB hbw.size)))) (Nat.le_trans (Nat.le_trans hB hbw.size) hW.size) x m hky
    have hnm:=Mt (fd:=Aj objs) (d:=x.2) (n:=m)
    generalize Ed (Aj objs) x.2 m=F at *
    have zE : ∀ W : World,(W.alloc (.cells #[.string ⟨#[]⟩, .int .i64 0, .string ⟨#[]⟩, .int .i64 0] 27)).heap[W.heap.size]? = some (.cells #[.string ⟨#[]⟩, .int .i64 0, .string ⟨#[]⟩, .int .i64 0] 27):=fun W=>heap_last W _ _ rfl
    have HP:=Ac (And.intro r1 hpl)
    have HR:=Ac (And.intro hRi (And.intro htk (And.intro hsd (And.intro hbw (And.intro hb2r hnm)))))
    clear hRi htk hsd hbw hb2r hnm r1 hpl hdr hcs hblk hblk2
    go_upto_region 10 with fail
    go_cut [13,14] from 34 to 51 (fun v13 v14 wx=>∃ q,v13 = .pointer (some ⟨q,0,none⟩)∧v14 = .int .i64 F.1∧wx.heap[q]? = some (.cells #[.string (Ab F.2.1), .int .i64 F.2.2.1, .string (Ab F.2.2.2.1), .int .i64 F.2.2.2.2] 27)∧Below wr.heap.size wr wx)
    case first=>
     refine wp_region_held_drew (S:=fun W=>W.cell? ⟨w.heap.size,0,none⟩=some (Cf c)∧W.cell? ⟨k1,0,none⟩=some (.string (Ab x.1))∧W.cell? ⟨k1,1,none⟩=some (.int .i64 x.2.1)∧W.cell? ⟨k1,2,none⟩=some (.string (Ab x.2.2.1))∧W.cell? ⟨k1,3,none⟩=some (.int .i64 x.2.2.2)) (by kernel_rfl) (⟨r0,p0,p1,p2,p3⟩) (fun hHeld=>?_)
     refine Aa 0 hHeld ?_
     refine Aa 1 hHeld ?_
     refine Aa 2 hHeld ?_
     refine Aa 3 hHeld ?_
     refine Aa 4 hHeld ?_
     refine Aa 5 hHeld ?_
     have hsb : ∀ W,Below wr.heap.size wr W→W.cell? ⟨w.heap.size,0,none⟩=some (Cf c)∧W.cell? ⟨k1,0,none⟩=some (.string (Ab x.1))∧W.cell? ⟨k1,1,none⟩=some (.int .i64 x.2.1)∧W.cell? ⟨k1,2,none⟩=some (.string (Ab x.2.2.1))∧W.cell? ⟨k1,3,none⟩=some (.int .i64 x.2.2.2):=fun W hW=>by
      have a1:=(hW.block _ (Ad HP.out.1)).trans HP.out.1
      have a2:=(hW.block _ (Ad HP.out.2)).trans HP.out.2
      exact ⟨rc (i:=0) a1 rfl,rc (i:=0) a2 rfl,rc (i:=1) a2 rfl,rc (i:=2) a2 rfl,rc (i:=3) a2 rfl⟩
     clear p0 p1 p2 p3 r0
     refine twoH (i:=6) (j:=10) rfl rfl (by kernel_rfl) rfl rfl (fun K hK=>?_) (fun K hK=>?_)
     ·go_simp
      refine (hfi wr.drew (Below.refl _ _).drew).mono ?_
      rintro e w4 ⟨rfl,hb4⟩
      have B4 : Below wr.heap.size wr w4:=(Below.refl _ _).drew.trans hb4
      refine hK.out _ _ (hsb w4 B4) (fun hHeld=>?_)
      clear hK K
      try simp only [Act.put,List.setIfInBounds_toArray,List.set_cons_zero,List.set_cons_succ]
      refine Aa 7 hHeld ?_
      refine Aa 8 hHeld ?_
      refine Aa 9 hHeld ?_
      refine Ai (i:=10) rfl (by kernel_rfl) rfl (fun K hK=>?_)
      go_simp
      have hz:=zE w4
      have d0:=rc (i:=0) hz rfl
      have d1:=rc (i:=1) hz rfl
      have d2:=rc (i:=2) hz rfl
      have d3:=rc (i:=3) hz rfl
      have e0:=Af (j:=0) hz
      have e1:=Af (j:=1) hz
      have e2:=Af (j:=2) hz
      have e3:=Af (j:=3) hz
      refine hK.out _ _ (hsb _ (B4.alloc B4.size _)) (fun hHeld=>?_)
      clear hK K
      try simp only [Act.put,List.setIfInBounds_toArray,List.set_cons_zero,List.set_cons_succ]
      refine Ai (i:=11) rfl (by kernel_rfl) rfl (fun K hK=>?_)
      go_simp
      refine hK.out _ _ (hsb _ (B4.alloc B4.size _)) (fun hHeld=>?_)
      clear hK K
      try simp only [Act.put,List.setIfInBounds_toArray,List.set_cons_zero,List.set_cons_succ]
      refine Aa 12 hHeld ?_
      refine wpAnyH_done (by kernel_rfl) ?_ _
      clear hHeld
      go_wp2_with fail
      go_meet
      exact ⟨_,rfl,rfl,heap_last w4 _ _ rfl,B4.alloc B4.size _⟩
     ·go_simp
      have hz:=zE wr
      have bz : Below wr.heap.size wr (wr.alloc (.cells #[.string ⟨#[]⟩, .int .i64 0, .string ⟨#[]⟩, .int .i64 0] 27)).drew:=((Below.refl _ _).alloc (Nat.le_refl _) _).drew
      refine hK.out _ _ (hsb _ bz) (fun hHeld=>?_)
      clear hK K
      try simp only [Act.put,List.setIfInBounds_toArray,List.set_cons_zero,List.set_cons_succ]
      refine Ai (i:=6) rfl (by kernel_rfl) rfl (fun K hK=>?_)
      go_simp
      refine (hfi _ bz).mono ?_
      rintro e w4 ⟨rfl,hb4⟩
      have B4 : Below wr.heap.size wr w4:=bz.trans (hb4.mono bz.size)
      have z4:=(hb4.block wr.heap.size (by simp)).trans (show (wr.alloc (.cells #[.string ⟨#[]⟩, .int .i64 0, .string ⟨#[]⟩, .int .i64 0] 27)).drew.heap[wr.heap.size]? = _ from hz)
      have H4:=Ac (Cv (.string (Ab F.2.1)) (.int .i64 F.2.2.1) (.string (Ab F.2.2.2.1)) (.int .i64 F.2.2.2.2) z4 B4 (Nat.le_refl _))
      refine hK.out _ _ (hsb w4 B4) (fun hHeld=>?_)
      clear hK K
      try simp only [Act.put,List.setIfInBounds_toArray,List.set_cons_zero,List.set_cons_succ]
      refine Aa 7 hHeld ?_
      refine Aa 8 hHeld ?_
      refine Aa 9 hHeld ?_
      have d0:=rc (i:=0) z4 rfl
      have d1:=rc (i:=1) z4 rfl
      have d2:=rc (i:=2) z4 rfl
      have d3:=rc (i:=3) z4 rfl
      have e0:=Af (j:=0) z4
      have e1:=Af (j:=1) z4
      have e2:=Af (j:=2) z4
      have e3:=Af (j:=3) z4
      refine Ai (i:=11) rfl (by kernel_rfl) rfl (fun K hK=>?_)
      go_simp
      refine hK.out _ _ (hsb _ H4.out.2) (fun hHeld=>?_)
      clear hK K
      try simp only [Act.put,List.setIfInBounds_toArray,List.set_cons_zero,List.set_cons_succ]
      refine Aa 12 hHeld ?_
      refine wpAnyH_done (by kernel_rfl) ?_ _
      clear hHeld
      go_wp2_with fail
      go_meet
      exact ⟨_,rfl,rfl,H4.out.1,H4.out.2⟩
    case rest=>
     obtain ⟨q,rfl,rfl,hq,hbc⟩:=hcut
     obtain ⟨hRi,htk,hsd,hbw,hb2r,hnm⟩:=HR.out
     have hbwc:=hbw.trans (hbc.mono hbw.size)
     have q0:=rc (i:=0) hq rfl
     have q1:=rc (i:=1) hq rfl
     have q2:=rc (i:=2) hq rfl
     have q3:=rc (i:=3) hq rfl
     by_cases her : F.1≠0
     ·have qe : (F.1 != 0)=true:=by simpa using her
      rw [if_pos her] at hRi
      have HF:=Ac (show goToP w.heap.size wc R ns.reverse (.returned (.tuple #[.pointer none, .int .i64 F.1]))∧Below w.heap.size w wc from ⟨by unfold goToP; rw [hRi,if_pos her],hbwc⟩)
      clear hRi htk hsd hbw hb2r hnm hq hbc hbwc her hfi HP
      go_wp2
      go_ret2
      exact HF.out
     ·have qe : (F.1 != 0)=false:=by simpa using her
      rw [if_neg her] at hRi
      have hnm2:=hnm (by simpa using her)
      have hsd2:=(hsd.below hbc (Nat.le_refl _)).below (w':=wc.alloc (.cells (Em F.2 (.pointer (some ⟨k1,0,none⟩)) (.map none)) 75)) ((Below.refl _ _).alloc (Nat.le_refl _) _) (Nat.le_refl _)
      have hpn:=heap_last wc (.cells (Em F.2 (.pointer (some ⟨k1,0,none⟩)) (.map none)) 75) _ rfl
      have hst : GoPW (Aj objs) w.heap.size w ns R (i+1) (.pointer (some ⟨wc.heap.size,0,none⟩)) (wc.alloc (.cells (Em F.2 (.pointer (some ⟨k1,0,none⟩)) (.map none)) 75)):=by
       refine ⟨wc.heap.size,F.2,_,rfl,hRi,hpn,?_,hbwc.alloc hbwc.size _⟩
       rw [htk]
       refine ⟨hbwc.size,F.2.2, .map none,k1,?_,hsd2⟩
       rw [hpn,← hnm2]
      have HF:=Ac (And.intro hst ((hb2r.trans (hbc.mono hb2r.size)).alloc (Nat.le_trans hb2r.size hbc.size) (.cells (Em F.2 (.pointer (some ⟨k1,0,none⟩)) (.map none)) 75)))
      clear hRi htk hsd hbw hb2r hnm hq hbc hbwc her hfi HP hnm2 hsd2 hpn hst
      go_wp2_with fail
      go_roundw
      case rel=>exact ⟨i+1,by omega,by go_num,HF.out.1,HF.out.2⟩
      case measure=>simp [intOf]; omega
   ·have hin : i=n:=by omega
    have hall : ns.drop i = []:=by rw [List.drop_eq_nil_iff]; have:=HN.out.1; omega
    have htk : ns.take i=ns:=by rw [hin,HN.out.1,List.take_length]
    rw [hall,goE] at hRi
    rw [htk] at hsd
    have q5 : decide ((i : Int)<(n : Int))=false:=decide_eq_false (by omega)
    have HF:=Ac (show goToP w.heap.size wr R ns.reverse (.returned (.tuple #[.pointer (some ⟨k1,0,none⟩), .int .i64 0]))∧Below w.heap.size w wr from ⟨by unfold goToP; rw [hRi,if_neg (by simp)]; exact ⟨k1,up,rfl,hpl,hsd⟩,hbw⟩)
    clear hRi hpl hsd hbw hb2r hall htk
    go_wp2
    go_ret2
    exact HF.out
end Go.Proofs.YtckejblkppllaaaGreatDoor
