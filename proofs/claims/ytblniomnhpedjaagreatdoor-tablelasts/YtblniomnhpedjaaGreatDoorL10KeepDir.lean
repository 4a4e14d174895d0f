/-
  Texts joined: KeepDir, MClone, UndoDir, TRows.
-/
import Derived.Test.YtblniomnhpedjaaGreatDoorL9Rename
import Derived.Shelf.SlMaps.Clone
import Derived.Test.YtblniomnhpedjaaGreatDoorL1Chg
namespace Go.Proofs.YtblniomnhpedjaaGreatDoor
open Go.RowKit
section
variable {w w' : World} {F : Nat→Prop} {d : Nat} {S : Dk} {G : Gh}
theorem ActW.dir {fb : Nat→Nat} {a : Ac} {o v : Value} (hm : A4 a=false) (h : ActW w F fb a (o,v)) :
  o = .pointer none∧∃ c u,v = .func (.func 161) #[] #[.pointer (some ⟨c,0,none⟩)]∧w.heap[c]? = some (.cells #[u] 219)∧DoW w F fb a u:=by
 cases a with
 | more f k=>simp [A4] at hm
 | made n f=>obtain ⟨h1,c,u,h2,_,h3,h4⟩:=h; exact ⟨h1,c,u,h2,h3,h4⟩
 | ren a b=>obtain ⟨h1,c,u,h2,_,h3,h4⟩:=h; exact ⟨h1,c,u,h2,h3,h4⟩
 | rem n=>obtain ⟨h1,c,u,h2,_,h3,h4⟩:=h; exact ⟨h1,c,u,h2,h3,h4⟩
theorem I7 {l : Dir} {ls : List Ac} {k : Nat} {a : Ac} (h : ls[k]? = some a) : A2 l (ls.take (k+1))=Bl (A2 l (ls.take k)) a:=by
 rw [List.take_add_one,h,Hp]
 rfl
theorem O8 {l : Dir} {ls : List Ac} (hv : Cz l ls) {k : Nat} {a : Ac} (h : ls[k]? = some a) : Cz l (ls.take k)∧canD (A2 l (ls.take k)) a:=by
 have h1 : ls=ls.take (k+1)++ls.drop (k+1):=(List.take_append_drop _ _).symm
 rw [h1] at hv
 have h2:=(Gp.1 hv).1
 rw [List.take_add_one,h] at h2
 have h3:=Gp.1 h2
 exact ⟨h3.1,h3.2.1⟩
theorem done_more {l : Dir} {a : Ac} (h : A4 a=true) : Bl l a=l:=by
 cases a <;> first | rfl | simp [A4] at h
set_option maxRecDepth 20000 in
set_option maxHeartbeats 800000 in
theorem keepDir_rep (h : Rep w F d S G) (hb : S.bulk<1099511627776) :
  Calls Tryz.prog 163 #[.pointer (some ⟨d,0,none⟩)] w fun e w'=>e = .returned (.tuple #[])∧(∃ G',Rep w' (Fx F w w') d S.keepD G')∧Chg F w w':=by
 have hd:=h.disk
 unfold B7 at hd
 obtain ⟨a,cap,hlv⟩:=Do h.row
 obtain ⟨n,hn⟩ : ∃ n,n=G.vs.length:=⟨_,rfl⟩
 have hna : S.acts.length=n:=by rw [hn,h.many]
 have hal:=E6 S
 rw [← hn] at hlv
 have hd':=hd
 rw [hlv] at hd'
 have x4:=Ad hd' 4
 have hsd : ∀ bs,G.sure=some bs→bs≠d:=fun bs e ee=>by
  have:=h.sure
  rw [e] at this
  exact this.2.ne h.disk ee.symm
 have hsr : ∀ bs,G.sure=some bs→G.lv.ownBlock≠some bs:=fun bs e ee=>by
  have:=h.sure
  rw [e] at this
  obtain ⟨cur,hcur⟩:=Aw h.row ee
  exact this.2.ne hcur rfl
 have hrow:=h.row
 rw [hlv,← hn] at hrow
 have hsp : Dh w (fun k=>some k=G.sure):=by
  intro k x t h1 h2 e
  have hm:=h.sure
  rw [← e] at hm
  exact J1 hm.2 k x t h1 h2 rfl
 have H:=Ab h
 have HD:=Ab hd
 have HHD:=Ab hd'
 have HROW:=Ab hrow
 have HSD:=Ab hsd
 have HSR:=Ab hsr
 have HSP:=Ab hsp
 have HN:=Ab hn
 clear h hd hd' hrow hsd hsr hsp hn
 go_enter Tryz.func163,Tryz.ntmps163
 go_wp2_with fail
 go_loopw [9] (fun x wr=>∃ k : Nat,k≤n∧x = .int .i64 (k : Int)∧Chg (fun j=>some j=G.sure) w wr∧∀ bs,G.sure=some bs→Ak wr bs (dv G.fb (A2 S.sure (S.acts.take k)))) (fun x _=>n - (intOf x).toNat)
 case atStart=>
  refine ⟨0,Nat.zero_le _,rfl,Chg.refl _ _,fun bs e=>?_⟩
  have:=H.out.sure
  rw [e] at this
  exact this.2
 case round=>
  obtain ⟨k,hk,rfl,hc,hmap⟩:=hrel
  by_cases hlt : k<n
  ·obtain ⟨p,hpk⟩ : ∃ p,G.vs[k]? = some p:=⟨_,List.getElem?_eq_getElem (by rw [← HN.out]; exact hlt)⟩
   obtain ⟨ac,hak⟩ : ∃ ac,S.acts[k]? = some ac:=⟨_,List.getElem?_eq_getElem (by omega)⟩
   obtain ⟨o,v⟩:=p
   obtain ⟨bs,hbs⟩ : ∃ bs,G.sure=some bs:=by
    refine Option.ne_none_iff_exists'.1 fun e=>?_
    have e2:=H.out.bare (H.out.both.2 e)
    rw [e2] at hna
    simp at hna
    omega
   have hrr:=Bb HROW.out hc (fun j hj e=>HSR.out j e.symm (by rw [hlv]; exact hj))
   obtain ⟨g,hg⟩ : ∃ g,a=some ⟨g,0,none⟩:=by
    rcases hrr.2 with ⟨e1,e2⟩ | ⟨g,cap,cur,e1,_⟩
    ·omega
    ·injection e1 with e1
     exact ⟨g,e1⟩
   subst hg
   have hnl:=HN.out
   have z0:=hrr.cellAt (k * 2) (by omega)
   have z1:=hrr.cellAt (k * 2+1) (by omega)
   rw [(Dq hpk).1] at z0
   rw [(Dq hpk).2] at z1
   clear hnl
   have hw:=(H.out.actsKeep hc HSP.out (F':=F) (fun _ h=>h)) k ac (o,v) hak hpk
   obtain ⟨hv1,hv2⟩:=O8 H.out.ok.valid hak
   by_cases hm : A4 ac=true
   ·have ho : ∃ b,o = .pointer (some ⟨b,0,none⟩):=by
     rcases hw.first with ⟨h1,h2⟩ | ⟨f,j,h1,h2⟩
     ·rw [hm] at h1
      cases h1
     ·exact ⟨_,h2⟩
    obtain ⟨fb,rfl⟩:=ho
    obtain ⟨fn,fs,fc,hfv⟩:=hw.second
    simp only at hfv
    subst hfv
    have HC:=Ab hc
    have HM:=Ab hmap
    clear hc hmap hrr hw
    go_wp2_with fail
    go_roundw
    case rel=>
     refine ⟨k+1,by omega,by go_num,HC.out.alloc _,fun bs e=>?_⟩
     rw [I7 hak,done_more hm]
     exact (HM.out bs e).keep ((Chg.refl (fun _=>False) _).alloc _) (fun h=>h)
    case measure=>simp [intOf]; omega
   ·obtain ⟨ho,c,u,hv,hcc,hdo⟩:=hw.dir (by simpa using hm)
    subst ho hv
    have hA : Chg (fun _=>False) wr (wr.alloc (.cells #[.pointer none, .func (.func 161) #[] #[.pointer (some ⟨c,0,none⟩)]] 111)).drew:=((Chg.refl _ _).alloc _).drew
    have hdr:=hA.keep (hc.keep HHD.out (fun e=>HSD.out d e.symm rfl)) (fun h=>h)
    have y3:=Ad hdr 3
    rw [hbs] at y3
    have hnb : (wr.alloc (.cells #[.pointer none, .func (.func 161) #[] #[.pointer (some ⟨c,0,none⟩)]] 111)).drew.heap[wr.heap.size]? = _:=Aq wr _
    have y1:=Ad hnb 1
    have hcall:=dirDo_any _ bs c (.map none) 0 u F G.fb _ ac (Jn H.out.ok.sortS hv1) ((hmap bs hbs).keep hA (fun h=>h)) hv2 (hdo.keep hA (fun _ _ _ _ _ _ h=>h) (fun _ h=>h) (fun _ _=>rfl)) (hA.keep hcc (fun h=>h))
    have hbd : d≠bs:=fun e=>HSD.out bs hbs e.symm
    have hbw : wr.heap.size≠bs:=Nat.ne_of_gt (hmap bs hbs).lt
    have HC:=Ab hc
    have HA:=Ab hA
    have HNB:=Ab hnb
    have HDR:=Ab hdr
    clear hc hmap hrr hw hA hnb hdr hdo hcc
    go_wp2_with fail
    refine wp_region_held_drew (S:=fun W=>W.cell? ⟨wr.heap.size,1,none⟩=some (.func (.func 161) #[] #[.pointer (some ⟨c,0,none⟩)])∧W.cell? ⟨d,3,none⟩=some (.map (some bs))) (by kernel_rfl) (⟨y1,y3⟩) (fun hHeld=>?_)
    refine Aa (i:=0) (v:=?_) rfl (by kernel_rfl) (by kernel_rfl) (by kernel_rfl) (fun _ _ _ h=>h) rfl ?_ hHeld ?_
    rotate_left
    ·intro w hS; (try dsimp only at hS); obtain ⟨hS0,hS1⟩:=hS; go_simp; first | done | (with_reducible rfl)
    try simp only [Act.put,List.setIfInBounds_toArray,List.set_cons_zero,List.set_cons_succ]
    refine Aa (i:=1) (v:=?_) rfl (by kernel_rfl) (by kernel_rfl) (by kernel_rfl) (fun _ _ _ h=>h) rfl ?_ hHeld ?_
    rotate_left
    ·intro w hS; (try dsimp only at hS); obtain ⟨hS0,hS1⟩:=hS; go_simp; first | done | (with_reducible rfl)
    try simp only [Act.put,List.setIfInBounds_toArray,List.set_cons_zero,List.set_cons_succ]
    refine Aa (i:=2) (v:=?_) rfl (by kernel_rfl) (by kernel_rfl) (by kernel_rfl) (fun _ _ _ h=>h) rfl ?_ hHeld ?_
    rotate_left
    ·intro w hS; (try dsimp only at hS); obtain ⟨hS0,hS1⟩:=hS; go_simp; first | done | (with_reducible rfl)
    try simp only [Act.put,List.setIfInBounds_toArray,List.set_cons_zero,List.set_cons_succ]
    refine Aa (i:=3) (v:=?_) rfl (by kernel_rfl) (by kernel_rfl) (by kernel_rfl) (fun _ _ _ h=>h) rfl ?_ hHeld ?_
    rotate_left
    ·intro w hS; (try dsimp only at hS); obtain ⟨hS0,hS1⟩:=hS; go_simp; first | done | (with_reducible rfl)
    try simp only [Act.put,List.setIfInBounds_toArray,List.set_cons_zero,List.set_cons_succ]
    refine Aa (i:=4) (v:=?_) rfl (by kernel_rfl) (by kernel_rfl) (by kernel_rfl) (fun _ _ _ h=>h) rfl ?_ hHeld ?_
    rotate_left
    ·intro w hS; (try dsimp only at hS); obtain ⟨hS0,hS1⟩:=hS; go_simp; first | done | (with_reducible rfl)
    try simp only [Act.put,List.setIfInBounds_toArray,List.set_cons_zero,List.set_cons_succ]
    refine Aa (i:=5) (v:=?_) rfl (by kernel_rfl) (by kernel_rfl) (by kernel_rfl) (fun _ _ _ h=>h) rfl ?_ hHeld ?_
    rotate_left
    ·intro w hS; (try dsimp only at hS); obtain ⟨hS0,hS1⟩:=hS; go_simp; first | done | (with_reducible rfl)
    try simp only [Act.put,List.setIfInBounds_toArray,List.set_cons_zero,List.set_cons_succ]
    refine Aa (i:=6) (v:=?_) rfl (by kernel_rfl) (by kernel_rfl) (by kernel_rfl) (fun _ _ _ h=>h) rfl ?_ hHeld ?_
    rotate_left
    ·intro w hS; (try dsimp only at hS); obtain ⟨hS0,hS1⟩:=hS; go_simp; first | done | (with_reducible rfl)
    try simp only [Act.put,List.setIfInBounds_toArray,List.set_cons_zero,List.set_cons_succ]
    refine An (i:=7) rfl (by kernel_rfl) rfl (fun K hK=>?_)
    go_simp
    refine hcall.mono ?_
    rintro e w1 ⟨rfl,hm1,hc1⟩
    have v3:=Ad (hc1.keep HDR.out hbd) 3
    rw [hbs] at v3
    refine hK.out _ _ (⟨Ad (hc1.keep HNB.out hbw) 1,v3⟩) (fun hHeld=>?_)
    clear hK K
    try simp only [Act.put,List.setIfInBounds_toArray,List.set_cons_zero,List.set_cons_succ]
    refine wpAnyH_done (by kernel_rfl) ?_ _
    clear hHeld
    have HM1:=Ab hm1
    clear hm1 v3 y1 y3 hcall
    go_wp2_with fail
    go_roundw
    case rel=>
     refine ⟨k+1,by omega,by go_num,(HC.out.then (HA.out.mono fun _ _ h=>h.elim)).then (hc1.mono fun _ _ e=>by rw [e,hbs]),fun b2 e=>?_⟩
     rw [hbs] at e
     injection e with e
     subst e
     rw [I7 hak]
     exact HM1.out
    case measure=>simp [intOf]; omega
  ·have hkn : k=n:=by omega
   subst hkn
   have hdr:=hc.keep HD.out (fun e=>HSD.out d e.symm rfl)
   have hnf : ∀ i,S.known i→some (G.fb i)≠G.sure:=fun i hi e=>by
    have hm:=H.out.sure
    rw [← e] at hm
    exact hm.2.ne (H.out.files i hi).2 rfl
   have hsz:=hc.size
   have hfin:=H.out.finish hb (D:=S.dir) (now:=G.now) (sure:=G.sure) (fun i hi=>Dy H.out.ok hi) H.out.ok.keepD (hc.mono fun _ _ e=>Or.inr (Or.inr (Or.inl e))) hdr
    (H.out.now.keep hc (fun b e e2=>(H.out.two b e).1 e2.symm) (fun _ h=>Or.inl h))
    (by
     have hm:=H.out.sure
     cases e : G.sure with
     | none=>
      rw [e] at hm
      have h0:=H.out.bare (H.out.both.2 e)
      have h1 : dv G.fb S.sure = []:=hm
      have h2 : S.sure = []:=List.map_eq_nil_iff.1 h1
      have h3:=H.out.ok.dir
      rw [h0,h2] at h3
      show dv G.fb S.dir = []
      rw [h3]
      rfl
     | some bs=>
      rw [e] at hm
      have h3:=hmap bs e
      rw [List.take_of_length_le (Nat.le_of_eq hna),← H.out.ok.dir] at h3
      exact ⟨Or.inl hm.1,h3⟩)
    H.out.both H.out.two H.out.three H.out.bare (fun i hi=>hc.keep (H.out.files i hi).2 (hnf i hi))
   clear hc hmap hdr hnf
   go_wp2_with (first
    | (go_at_call 160; refine hfin.mono ?_; rintro e w1 ⟨rfl,hforget⟩)
    | (go_at_call 167; refine hforget.mono ?_; rintro e w2 ⟨rfl,q5,q6⟩))
   go_end0
   exact ⟨rfl,q5,q6⟩
end
end Go.Proofs.YtblniomnhpedjaaGreatDoor
namespace Go.Proofs.YtblniomnhpedjaaGreatDoor
open Go.RowKit
set_option maxRecDepth 20000 in
theorem Nb (w : World) (b : Nat) (l : List (Value × Value)) (h : Ak w b l) :
  Calls Tryz.prog 63 #[.map (some b)] w fun e w'=>e = .returned (.map (some w.heap.size))∧Ak w' w.heap.size l∧Chg (fun _=>False) w w':=by
 obtain ⟨es,clock,h1,h2,h3⟩:=h
 have hq:=fun w=>eqM62 w (some b)
 have HE:=Ab h3
 clear h3
 go_enter Tryz.func63,Tryz.ntmps63
 go_wp2
 rw [run_callFunc_extern Tryz.func82 (by kernel_rfl) (by kernel_rfl) (by kernel_rfl) (e:=Extern.MapsClone.clone) (by kernel_rfl),run_maps_clone_sl w 85 h1]
 simp only [Result.andThen]
 rw [Oper.upon_value]
 go_wp2
 rw [run_typeAssert_map_sl _ 85 20 _ _ _ Tryz.underlying85]
 simp only [Result.andThen]
 rw [Oper.upon_value]
 go_wp2
 go_ret
 exact ⟨rfl,⟨es,clock,Aq w _,h2,HE.out⟩,(Chg.refl _ w).alloc _⟩
end Go.Proofs.YtblniomnhpedjaaGreatDoor
namespace Go.Proofs.YtblniomnhpedjaaGreatDoor
open Go.RowKit
def Gy (w : World) (b r : Nat) : Nat:=match w.heap[r]?,w.heap[b]? with
 | some (.mapIter _ _ seen _),some (.map es _)=>(leftOf es seen).size
 | _,_=>0
theorem B4.len {w : World} {b r : Nat} {rest : List (Value × Value)} (h : B4 w b r rest) : Gy w b r=rest.length:=by
 obtain ⟨es,ck,seen,c0,a1,a2,a3,a4,a5⟩:=h
 unfold Gy
 rw [a3,a1]
 simp only
 rw [← a5.length_eq,List.length_map,Array.length_toList]
theorem B4.perm {w : World} {b r : Nat} {l l' : List (Value × Value)} (h : B4 w b r l) (hp : l.Perm l') : B4 w b r l':=by
 obtain ⟨es,ck,seen,c0,a1,a2,a3,a4,a5⟩:=h
 exact ⟨es,ck,seen,c0,a1,a2,a3,a4,a5.trans hp⟩
theorem It {fb : Nat→Nat} {rl : Dir} {k v : Value} {rest : List (Value × Value)} (h : (dv fb rl).Perm ((k,v) :: rest)) :
  ∃ n f rl',rl.Perm ((n,f) :: rl')∧k = .string (Ae n)∧v = .pointer (some ⟨fb f,0,none⟩)∧rest.Perm (dv fb rl'):=by
 have hm : (k,v)∈dv fb rl:=h.mem_iff.2 List.mem_cons_self
 obtain ⟨⟨n,f⟩,hp,e⟩:=List.mem_map.1 hm
 injection e with e1 e2
 have h1 : rl.Perm ((n,f) :: rl.erase (n,f)):=List.perm_cons_erase hp
 refine ⟨n,f,rl.erase (n,f),h1,e1.symm,e2.symm,?_⟩
 have h2 : (dv fb rl).Perm ((.string (Ae n), .pointer (some ⟨fb f,0,none⟩)) :: dv fb (rl.erase (n,f))):=h1.map _
 have h3:=h.symm.trans h2
 rw [← e1,← e2] at h3
 exact List.perm_cons (a:=(Value.string (Ae n),Value.pointer (some ⟨fb f,0,none⟩))) |>.1 h3
theorem used_pick {files : List Fl} {rl rl' : Dir} {n : Nm} {f : Nat} (h : rl.Perm ((n,f) :: rl')) : Ba files rl=Az files f+Ba files rl':=by
 unfold Ba
 rw [Hq (h.map fun p : Nm × Nat=>Az files p.2)]
 rfl
theorem ids_pick {rl rl' : Dir} {n : Nm} {f : Nat} (h : rl.Perm ((n,f) :: rl')) (hn : (ids rl).Nodup) : (ids rl').Nodup∧f ∉ ids rl'∧∀ i,i∈ids rl↔i=f∨i∈ids rl':=by
 have hp : (ids rl).Perm (f :: ids rl'):=h.map fun p : Nm × Nat=>p.2
 have h2:=(hp.nodup_iff).1 hn
 rw [List.nodup_cons] at h2
 exact ⟨h2.2,h2.1,fun i=>by rw [hp.mem_iff,List.mem_cons]⟩
section
variable {w w' : World} {F : Nat→Prop} {d : Nat} {S : Dk} {G : Gh}
structure Mid (w : World) (d : Nat) (S : Dk) (G : Gh) (now : Option Nat) (u : Nat) (N : Nat→Bool) (wr : World) : Prop where
 disk : wr.heap[d]? = some (.cells #[.int .i64 (S.room : Int), .int .i64 (u : Int), .map now, .map G.sure,G.lv, .int .i64 (S.n : Int), .bool S.cut.isSome, .int .i64 G.cv, .map G.fls] 89)
 files : ∀ i,S.known i→wr.heap[G.fb i]? = some (.cells #[G.rv i,G.sv i, .bool (N i)] 118)
 chg : Chg (fun k=>k=d ∨ ∃ i,S.known i∧k=G.fb i) w wr
theorem Mid.file {now : Option Nat} {u : Nat} {N : Nat→Bool} {wr : World} (h : Rep w F d S G) (m : Mid w d S G now u N wr) {i : Nat} (hi : S.live i) :
  ∃ ra rc,G.rv i = .slice ra (Az S.files i) rc∧wr.heap[G.fb i]? = some (.cells #[.slice ra (Az S.files i) rc,G.sv i, .bool (N i)] 118):=by
 obtain ⟨x,hx⟩ : ∃ x,S.files[i]? = some x:=⟨_,List.getElem?_eq_getElem (h.ok.liveLt hi)⟩
 obtain ⟨b1,b2,b3⟩:=h.bytes i x hi hx
 obtain ⟨ra,rc,hrv⟩:=Do b2
 have e : Az S.files i=x.b.length:=by simp [Az,hx]
 refine ⟨ra,rc,by rw [e]; exact hrv,?_⟩
 rw [e,← hrv]
 exact m.files i (Or.inl hi)
theorem Mid.name {now : Option Nat} {u u' : Nat} {N : Nat→Bool} {b : Bool} {wr w2 : World} (h : Rep w F d S G) (m : Mid w d S G now u N wr) {f : Nat} (hf : S.live f)
  (hd2 : w2.heap[d]? = some (.cells #[.int .i64 (S.room : Int), .int .i64 (u' : Int), .map now, .map G.sure,G.lv, .int .i64 (S.n : Int), .bool S.cut.isSome, .int .i64 G.cv, .map G.fls] 89))
  (hf2 : w2.heap[G.fb f]? = some (.cells #[G.rv f,G.sv f, .bool b] 118)) (hc : Chg (fun k=>k=d∨k=G.fb f) wr w2) : Mid w d S G now u' (fun i=>if i=f then b else N i) w2 where
 disk:=hd2
 files i hi:=by
  by_cases e : i=f
  ·subst e
   rw [if_pos rfl]
   exact hf2
  ·rw [if_neg e]
   refine hc.keep (m.files i hi) (fun e2=>?_)
   rcases e2 with e2 | e2
   ·exact h.ne_file hi e2.symm
   ·exact e (h.inj i f hi (Or.inl hf) e2)
 chg:=m.chg.then (hc.mono fun k _ e=>e.elim Or.inl fun e=>Or.inr ⟨f,Or.inl hf,e⟩)
theorem Mid.keep {X : Nat→Prop} {now : Option Nat} {u : Nat} {N : Nat→Bool} {wr w2 : World} (h : Rep w F d S G) (m : Mid w d S G now u N wr) (hc : Chg X wr w2) (hX : ∀ k,X k→w.heap.size≤k) : Mid w d S G now u N w2 where
 disk:=hc.keep m.disk (fun e=>Nat.not_lt_of_le (hX _ e) h.lt)
 files i hi:=hc.keep (m.files i hi) (fun e=>Nat.not_lt_of_le (hX _ e) (At (h.files i hi).2))
 chg:=m.chg.trans hc (fun i hi e=>absurd hi (Nat.not_lt_of_le (hX i e)))
theorem Mid.congr {now : Option Nat} {u u' : Nat} {N N' : Nat→Bool} {wr : World} (m : Mid w d S G now u N wr) (hu : u=u') (hN : ∀ i,S.known i→N i=N' i) : Mid w d S G now u' N' wr where
 disk:=hu ▸ m.disk
 files i hi:=hN i hi ▸ m.files i hi
 chg:=m.chg
theorem Mid.size {now : Option Nat} {u : Nat} {N : Nat→Bool} {wr : World} (m : Mid w d S G now u N wr) : w.heap.size≤wr.heap.size:=m.chg.size
theorem Lo {S : Dk} {rl : Dir} (hn : (ids rl).Nodup) : Ba S.files rl≤S.bulk:=by
 have h1:=lens_le S.files (ids rl) hn
 have e : Ba S.files rl=((ids rl).map (Az S.files)).sum:=by
  unfold Ba ids
  rw [List.map_map]
  rfl
 rw [e]
 unfold Dk.bulk
 omega
set_option maxRecDepth 20000 in
set_option maxHeartbeats 1600000 in
theorem undoDir_rep (h : Rep w F d S G) {bn : Nat} (hnow : G.now=some bn) (hb : S.bulk<1099511627776) :
  Calls Tryz.prog 162 #[.pointer (some ⟨d,0,none⟩)] w fun e w'=>e = .returned (.tuple #[])∧(∃ G',Rep w' (Fx F w w') d S.undoD G')∧Chg F w w':=by
 obtain ⟨bs,hbs⟩ : ∃ bs,G.sure=some bs:=Option.ne_none_iff_exists'.1 fun e=>by
  have:=h.both.2 e
  rw [hnow] at this
  cases this
 have hmn:=h.now
 rw [hnow] at hmn
 have hms:=h.sure
 rw [hbs] at hms
 have hd:=h.disk
 unfold B7 at hd
 have x2:=Ad hd 2
 rw [hnow] at x2
 obtain ⟨w1,hrun1,hgo1,hch1,hsz1⟩:=B4.start hmn.2 Tryz.underlying85
 have hm0 : Mid w d S G (some bn) (Ba S.files S.dir) (fun i=>decide (i∈ids S.dir)) w1:=
  ⟨hnow ▸ hch1.keep hd (fun h=>h),fun i hi=>hch1.keep (h.files i hi).2 (fun h=>h),hch1.mono fun _ _ h=>h.elim⟩
 have hnd : ∀ i,S.known i→G.fb i≠bn:=fun i hi e=>hmn.2.ne (h.files i hi).2 e
 have hnd2 : d≠bn:=hmn.2.ne h.disk
 have HGO1:=Ab hgo1
 have HM0:=Ab hm0
 have H:=Ab h
 have HMN:=Ab hmn
 have HMS:=Ab hms
 have HND:=Ab hnd
 clear hgo1 hm0 h hmn hms hnd hd hch1
 go_enter Tryz.func162,Tryz.ntmps162
 go_wp2_with fail
 go_loopw [11] (fun _ wr=>∃ rl : Dir,(ids rl).Nodup∧(∀ i∈ids rl,S.live i)∧B4 wr bn w.heap.size (dv G.fb rl)∧Mid w d S G (some bn) (Ba S.files rl) (fun i=>decide (i∈ids rl)) wr) (fun _ wr=>Gy wr bn w.heap.size)
 case atStart=>exact ⟨S.dir,H.out.ok.oneD,fun i hi=>Dy H.out.ok hi,HGO1.out,HM0.out⟩
 case round=>
  obtain ⟨rl,hrn,hrl,hgo,hmid⟩:=hrel
  rcases hgo.step (P:=Tryz.prog) 0 with ⟨hr0,hnext⟩ | ⟨k,v,rest,w2,hperm,hnext,hentry,hgo2,hc2,hs2⟩
  ·have hrl0 : rl = []:=List.map_eq_nil_iff.1 hr0
   subst hrl0
   have hu0 : Ba S.files []=0:=rfl
   rw [hu0] at hmid
   have hsb : Ak wr bs (dv G.fb S.sure):=HMS.out.2.keep hmid.chg (fun e=>by
    rcases e with e | ⟨i,hi,e⟩
    ·exact HMS.out.2.ne H.out.disk e.symm
    ·exact HMS.out.2.ne (H.out.files i hi).2 e.symm)
   have hcl:=Nb wr bs _ hsb
   have hdm:=hmid.disk
   rw [hbs] at hdm
   have y3:=Ad hdm 3
   have HMID:=Ab hmid
   have HDM:=Ab hdm
   have HSB:=Ab hsb
   have hws:=hgo.lt
   clear hgo hmid hr0 hrn hrl hsb hdm HGO1 HM0 x2 hrun1 hsz1
   go_wp2_with fail
   refine hcl.mono ?_
   rintro e w4 ⟨rfl,hm4,hc4⟩
   obtain ⟨cl,hcle⟩ : ∃ cl,cl=wr.heap.size:=⟨_,rfl⟩
   rw [← hcle] at hm4 hws ⊢
   have hd4:=hc4.keep HDM.out (fun h=>h)
   have z2:=Au hd4 2
   have a2:=Ad hd4 2
   have hcd : cl≠d:=fun e=>hm4.ne hd4 e.symm
   have hm5 : Ak (w4.setCell ⟨d,2,none⟩ (.map (some cl))) cl (dv G.fb S.sure):=hm4.keep (B9 w4 d 2 _) hcd
   have hd5:=Ax hd4 2 (.map (some cl))
   obtain ⟨w6,hrun6,hgo6,hch6,hsz6⟩:=B4.start hm5 Tryz.underlying85
   have hmid6 : Mid w d S G (some cl) 0 (fun _=>false) w6:=
    ⟨hch6.keep (hbs ▸ hd5) (fun h=>h),fun i hi=>hch6.keep (Ct (hc4.keep (HMID.out.files i hi) (fun h=>h)) (fun e=>H.out.ne_file hi e.symm)) (fun h=>h),
     ((HMID.out.chg.then (hc4.mono fun _ _ h=>h.elim)).setCell (p:=⟨d,2,none⟩) (Or.inl (Or.inl rfl)) _).then (hch6.mono fun _ _ h=>h.elim)⟩
   have hm6:=hm5.keep hch6 (fun h=>h)
   have a5:=Ad hd5 2
   obtain ⟨r2,hr2⟩ : ∃ r2,r2=(w4.setCell ⟨d,2,none⟩ (.map (some cl))).heap.size:=⟨_,rfl⟩
   rw [← hr2] at hrun6 hgo6
   have hr2w : w.heap.size≤r2:=by
    rw [hr2]
    have h1:=HMID.out.size
    have h2:=hc4.size
    simp [World.setCell]
    omega
   have hcr : cl≠r2:=hgo6.ne_map
   have hclw : w.heap.size≤cl:=by omega
   have HG6:=Ab hgo6
   have HM6:=Ab hm6
   have HMID6:=Ab hmid6
   have HCLE:=Ab hcle
   clear hgo6 hm6 hmid6 hm5 hd5 hd4 hm4 hc4 hch6 HMID HDM HSB hcl y3 hr2 hcle hsz6
   go_wp2_with fail
   go_loopw [31] (fun _ wr=>∃ (rl : Dir) (u : Nat),(ids rl).Nodup∧(∀ i∈ids rl,i∈ids S.sure)∧B4 wr cl r2 (dv G.fb rl)∧Ak wr cl (dv G.fb S.sure)∧u+Ba S.files rl=Ba S.files S.sure∧Mid w d S G (some cl) u (fun i=>decide (i∈ids S.sure∧i ∉ ids rl)) wr) (fun _ wr=>Gy wr cl r2)
   case atStart=>exact ⟨S.sure,0,(List.nodup_append.1 H.out.ok.one).1,fun _ h=>h,HG6.out,HM6.out,Nat.zero_add _,HMID6.out.congr rfl (fun i _=>by simp)⟩
   case round=>
    obtain ⟨rl,u,hrn,hrl,hgo,hmw,huu,hmid⟩:=hrel
    rcases hgo.step (P:=Tryz.prog) 0 with ⟨hr0,hnext2⟩ | ⟨k,v,rest,w7,hperm,hnext2,hentry,hgo7,hc7,hs7⟩
    ·have hrl0 : rl = []:=List.map_eq_nil_iff.1 hr0
     subst hrl0
     have hu1 : u=Ba S.files S.sure:=by
      have e : Ba S.files []=0:=rfl
      omega
     have hmid2 : Mid w d S G (some cl) (Ba S.files S.sure) (fun i=>decide (i∈ids S.sure)) wr:=hmid.congr hu1 (fun i _=>decide_eq_decide.2 ⟨fun h=>h.1,fun h=>⟨h,fun e=>by cases e⟩⟩)
     have hlow : ∀ {o : Option Nat} {l : List (Value × Value)},Bf w F o l→o≠some cl:=fun {o l} hm e=>by
      rw [e] at hm
      exact Nat.not_lt_of_le hclw hm.2.lt
     have hfin:=H.out.finish hb (D:=S.sure) (now:=some cl) (sure:=G.sure) (fun i hi=>Or.inl hi) H.out.ok.undoD (hmid2.chg.mono fun k _ e=>e.elim Or.inl fun e=>Or.inr (Or.inr (Or.inr e))) hmid2.disk
      ⟨Or.inr ⟨hclw,hmw.lt⟩,hmw⟩
      (H.out.sure.keep hmid2.chg (fun b e e2=>by
       have hm:=H.out.sure
       rw [e] at hm
       rcases e2 with e2 | ⟨i,hi,e2⟩
       ·exact hm.2.ne H.out.disk e2.symm
       ·exact hm.2.ne (H.out.files i hi).2 e2.symm) (fun _ h=>Or.inl h))
      (by rw [hbs]; simp)
      (fun b e=>by
       injection e with e
       subst e
       obtain ⟨l,g1,_⟩:=H.out.fails
       exact ⟨hlow H.out.sure,hlow g1⟩)
      H.out.three (fun e=>by cases e) hmid2.files
     clear hmid hmid2 hgo hmw hr0 hrn hrl huu hu1 hlow
     go_wp2_with (first
      | (go_at_call 160; refine hfin.mono ?_; rintro e w8 ⟨rfl,hforget⟩)
      | (go_at_call 167; refine hforget.mono ?_; rintro e w9 ⟨rfl,q5,q6⟩))
     go_end0
     exact ⟨rfl,q5,q6⟩
    ·obtain ⟨n,f,rl',hp1,rfl,rfl,hp2⟩:=It hperm
     obtain ⟨i1,i2,i3⟩:=ids_pick hp1 hrn
     have hfs : f∈ids S.sure:=hrl f ((i3 f).2 (Or.inl rfl))
     have hlf : S.live f:=Or.inl hfs
     have hm7 : Mid w d S G (some cl) u (fun i=>decide (i∈ids S.sure∧i ∉ ids rl)) w7:=hmid.keep H.out hc7 (fun k e=>by rw [e]; exact hr2w)
     obtain ⟨ra,rc,hrv,hfile⟩:=hm7.file H.out hlf
     have hup:=used_pick (files:=S.files) hp1
     have hul:=Lo (S:=S) (rl:=S.sure) (List.nodup_append.1 H.out.ok.one).1
     have hlen:=hgo.len
     have hdf : d≠G.fb f:=H.out.ne_file (Or.inl hlf)
     have hflt:=At (H.out.files f (Or.inl hlf)).2
     have hdlt:=H.out.lt
     have hne1 : ¬ (cl=d∨cl=G.fb f):=fun e=>by rcases e with e | e <;> omega
     have hne2 : ¬ (r2=d∨r2=G.fb f):=fun e=>by rcases e with e | e <;> omega
     have hd7:=hm7.disk
     have b0:=Ad hfile 0
     have b2:=Ad hfile 2
     have t2:=Au hfile 2
     have HF7:=Ab hfile
     have HD7:=Ab hd7
     have HLEN:=Ab hlen
     have HM7:=Ab hm7
     have HMW:=Ab (hmw.keep hc7 hcr)
     have HGO:=Ab (hgo7.perm hp2)
     have HUP:=Ab hup
     have HPL:=Ab hp1.length_eq
     have HUU:=Ab huu
     have hle : u+Az S.files f<1099511627776:=by omega
     clear hlen hm7 hgo7 hgo hmid hfile hperm hp2 hup hmw hd7 huu
     go_wp2_with fail
     have hcA : Chg (fun k=>k=d∨k=G.fb f) w7 (w7.setCell ⟨G.fb f,2,none⟩ (.bool true)):=(Chg.refl _ _).setCell (p:=⟨G.fb f,2,none⟩) (Or.inl (Or.inr rfl)) _
     have hdA:=Ct (p:=⟨G.fb f,2,none⟩) (u:=.bool true) HD7.out hdf
     have hfA:=Ax HF7.out 2 (.bool true)
     generalize w7.setCell ⟨G.fb f,2,none⟩ (.bool true)=wA at *
     have c0:=Ad hfA 0
     have c1:=Ad hdA 1
     have s1:=Au hdA 1
     have HFA:=Ab hfA
     have HDA:=Ab hdA
     have HCA:=Ab hcA
     clear hfA hdA hcA
     go_region
     have hB : Chg (fun k=>k=d∨k=G.fb f) w7 (wA.setCell ⟨d,1,none⟩ (.int .i64 ((u : Int)+(Az S.files f : Int)))).drew:=(HCA.out.setCell (p:=⟨d,1,none⟩) (Or.inl (Or.inl rfl)) _).drew
     have hdB : (wA.setCell ⟨d,1,none⟩ (.int .i64 ((u : Int)+(Az S.files f : Int)))).drew.heap[d]? = _:=Ax HDA.out 1 (.int .i64 ((u : Int)+(Az S.files f : Int)))
     have hfB : (wA.setCell ⟨d,1,none⟩ (.int .i64 ((u : Int)+(Az S.files f : Int)))).drew.heap[G.fb f]? = _:=Ct (p:=⟨d,1,none⟩) (u:=.int .i64 ((u : Int)+(Az S.files f : Int))) HFA.out (fun e=>hdf e.symm)
     generalize (wA.setCell ⟨d,1,none⟩ (.int .i64 ((u : Int)+(Az S.files f : Int)))).drew=wB at *
     have HB:=Ab hB
     have HDB:=Ab hdB
     have HFB:=Ab hfB
     have hgo8:=HGO.out.keep HB.out hne1 hne2
     have HG8:=Ab hgo8
     clear hB hdB hfB hgo8
     go_wp2_with fail
     go_roundw
     case rel=>
      refine ⟨rl',u+Az S.files f,i1,fun i hi=>hrl i ((i3 i).2 (Or.inr hi)),HG8.out,HMW.out.keep HB.out hne1,?_,(HM7.out.name H.out hlf (u':=u+Az S.files f) (b:=true) ?_ ?_ HB.out).congr rfl (fun i _=>?_)⟩
      ·have:=HUU.out
       have:=HUP.out
       omega
      ·exact HDB.out
      ·rw [hrv]
       exact HFB.out
      ·by_cases e : i=f
       ·subst e
        simp [i2,hfs]
       ·simp [e,i3]
     case measure=>
      rw [HG8.out.len,HLEN.out]
      have:=HPL.out
      simp [dv,this]
  ·obtain ⟨n,f,rl',hp1,rfl,rfl,hp2⟩:=It hperm
   obtain ⟨i1,i2,i3⟩:=ids_pick hp1 hrn
   have hlf : S.live f:=hrl f ((i3 f).2 (Or.inl rfl))
   have hm2 : Mid w d S G (some bn) (Ba S.files rl) (fun i=>decide (i∈ids rl)) w2:=hmid.keep H.out hc2 (fun k e=>Nat.le_of_eq e.symm)
   obtain ⟨ra,rc,hrv,hfile⟩:=hm2.file H.out hlf
   have hup:=used_pick (files:=S.files) hp1
   have hul:=Lo (S:=S) hrn
   have hun:=Mu w2 d (G.fb f) (Az S.files f) rc ra _ _ _ _ _ _ _ _ _ _ ((Ba S.files rl : Nat) : Int) hm2.disk hfile (by omega) (by omega)
   have hlen:=hgo.len
   have hne1 : ¬ (bn=d∨bn=G.fb f):=fun e=>e.elim (fun e=>hnd2 e.symm) (fun e=>HND.out f (Or.inl hlf) e.symm)
   have hne2 : ¬ (w.heap.size=d∨w.heap.size=G.fb f):=fun e=>e.elim (fun e=>Nat.ne_of_gt H.out.lt e) (fun e=>Nat.ne_of_gt (At (H.out.files f (Or.inl hlf)).2) e)
   have hgo3:=hgo2.perm hp2
   have hpl:=hp1.length_eq
   have HLEN:=Ab hlen
   have HM2:=Ab hm2
   have HGO:=Ab hgo3
   have HUP:=Ab hup
   clear hlen hm2 hgo2 hgo3 hgo hmid hfile hperm hp2 hup
   go_wp2_with (go_at_call 146; refine hun.mono ?_; rintro e w3 ⟨rfl,u1,u2,u3,_⟩; have HU1:=Ab u1; have HU2:=Ab u2; have HU3:=Ab u3; clear u1 u2 u3)
   have hgo4:=HGO.out.keep HU3.out hne1 hne2
   go_roundw
   case rel=>
    refine ⟨rl',i1,fun i hi=>hrl i ((i3 i).2 (Or.inr hi)),hgo4,(HM2.out.name H.out hlf (u':=Ba S.files rl') (b:=false) ?_ ?_ HU3.out).congr rfl (fun i _=>?_)⟩
    ·have e : (Ba S.files rl : Int) - (Az S.files f : Int)=((Ba S.files rl' : Nat) : Int):=by rw [HUP.out]; omega
     rw [← e]
     exact HU1.out
    ·rw [hrv]
     exact HU2.out
    ·by_cases e : i=f
     ·subst e
      simp [i2]
     ·simp [e,i3]
   case measure=>
    rw [hgo4.len,HLEN.out]
    simp [dv,hpl]
end
end Go.Proofs.YtblniomnhpedjaaGreatDoor
namespace Go.Proofs.YtblniomnhpedjaaGreatDoor
open Go.RowKit
def rv (l : List Af) : List (Value × Value):=l.map fun x=>(.string (Ae x.1), .agg #[.string (Ae x.1), .string (Ae x.2)])
theorem Hx (l : List Af) : ∀ p∈rv l,KStr p.1:=by
 intro p hp
 obtain ⟨x,-,rfl⟩:=List.mem_map.1 hp
 exact ⟨_,rfl⟩
theorem rv_ne {l : List Af} {k : Bs} (h : ∀ x∈l,x.1≠k) : ∀ p∈rv l,p.1 ≠ .string (Ae k):=by
 intro p hp e
 obtain ⟨x,hx,rfl⟩:=List.mem_map.1 hp
 injection e with e
 exact h x hx (strB_inj e)
theorem rv_mid (a b : List Af) (x : Af) : (rv (a++x :: b)).Perm ((.string (Ae x.1), .agg #[.string (Ae x.1), .string (Ae x.2)]) :: rv (a++b)):=List.perm_middle.map _
theorem zeroPair (w : World) : (zeroValue 75).run Tryz.prog w = .ok (.agg #[.string ⟨#[]⟩, .string ⟨#[]⟩]) w:=Tryz.zeroValue75 w
structure RowsAt (w : World) (g b : Nat) (l : List Af) : Prop where
 cells : w.heap[g]? = some (.cells #[.map (some b), .int .i64 (Ag l)] 97)
 map : Ak w b (rv l)
 rises : Bq l
theorem RowsAt.ne {w : World} {g b : Nat} {l : List Af} (h : RowsAt w g b l) : g≠b:=h.map.ne h.cells
theorem RowsAt.keep {F : Nat→Prop} {w w' : World} {g b : Nat} {l : List Af} (h : RowsAt w g b l) (hc : Chg F w w') (hg : ¬ F g) (hb : ¬ F b) : RowsAt w' g b l:=⟨hc.keep h.cells hg,h.map.keep hc hb,h.rises⟩
theorem weigh_any (w : World) (x : Af) (h1 : x.1.length≤140737488355328) (h2 : x.2.length≤140737488355328) :
  Calls Tryz.prog 99 #[.agg #[.string (Ae x.1), .string (Ae x.2)]] w fun e w'=>e = .returned (.int .i64 ((16+x.1.length+x.2.length : Nat) : Int))∧w'=w.alloc (.cells #[.string (Ae x.1), .string (Ae x.2)] 75):=by
 have s1:=B8 x.1
 have s2:=B8 x.2
 have q1 : IntKind.i64.wrap (16+(x.1.length : Int))=16+(x.1.length : Int):=by simp [IntKind.wrap,IntKind.bits,IntKind.signed]; omega
 have q2 : IntKind.i64.wrap (16+(x.1.length : Int)+(x.2.length : Int))=16+(x.1.length : Int)+(x.2.length : Int):=by simp [IntKind.wrap,IntKind.bits,IntKind.signed]; omega
 go_enter Tryz.func99,Tryz.ntmps99
 go_wp2
 go_ret
 refine ⟨?_,rfl⟩
 simp
theorem Cm (w : World) (o : Obj) : Chg (fun _=>False) w (w.alloc o):=(Chg.refl _ w).alloc o
abbrev prO (x : Af) : Obj:=.cells #[.string (Ae x.1), .string (Ae x.2)] 75
theorem look_key {w : World} {b : Nat} {l : List Af} (h : Ak w b (rv l)) {key : Bs} (hn : ∀ x∈l,x.1≠key) : (Instr.lookup 95 (.map (some b)) (.string (Ae key)) true).run Tryz.prog w = .ok (.tuple #[.agg #[.string ⟨#[]⟩, .string ⟨#[]⟩], .bool false]) w:=
 h.look_none (kstr w) (Hx l) Tryz.underlying95 ⟨_,rfl⟩ (rv_ne hn) (zeroPair w) true
theorem look_pair {w : World} {b : Nat} {l a c : List Af} (h : Ak w b (rv l)) (x : Af) (e : l=a++x :: c) : (Instr.lookup 95 (.map (some b)) (.string (Ae x.1)) true).run Tryz.prog w = .ok (.tuple #[.agg #[.string (Ae x.1), .string (Ae x.2)], .bool true]) w:=by
 subst e
 exact (h.perm (rv_mid a c x)).look (kstr w) (Hx _) Tryz.underlying95 ⟨_,rfl⟩ true
set_option maxRecDepth 20000 in
set_option maxHeartbeats 800000 in
theorem take_any (w : World) (g b : Nat) (l : List Af) (h : RowsAt w g b l) (key : Bs) (hw : Ag l≤140737488355328) :
  Calls Tryz.prog 80 #[.pointer (some ⟨g,0,none⟩), .string (Ae key)] w fun e w'=>e = .returned (.tuple #[])∧RowsAt w' g b (Du l key)∧Chg (fun k=>k=g∨k=b) w w':=by
 obtain ⟨a,c,hne,he,hl⟩:=Nh h.rises key
 have hrl:=less_rises h.rises key
 have c0:=Ad h.cells 0
 have c1:=Ad h.cells 1
 simp only [List.getElem?_toArray,List.getElem?_cons_zero,List.getElem?_cons_succ] at c0 c1
 have H:=Ab h
 rcases hl with hl | ⟨v,hl⟩
 ·have hlk:=look_key h.map (key:=key) (by rw [hl]; exact hne)
  have hle : Du l key=l:=he.trans hl.symm
  rw [hle]
  have HC:=Ab (Cm w (.cells #[.string ⟨#[]⟩, .string ⟨#[]⟩] 75))
  clear h hl he hne hrl hle
  go_enter Tryz.func80,Tryz.ntmps80
  go_wp2
  go_end0
  exact ⟨rfl,H.out.keep HC.out (fun h=>h) (fun h=>h),HC.out.mono fun _ _ h=>h.elim⟩
 ·have hlk:=look_pair h.map (key,v) hl
  have hwt : Ag l=16+key.length+v.length+Ag (Du l key):=by
   rw [he,hl,Kw (List.perm_middle : (a++(key,v) :: c).Perm ((key,v) :: (a++c))),Hd]
  have hkl : key.length≤140737488355328∧v.length≤140737488355328:=by omega
  have hwg:=fun W=>weigh_any W (key,v) hkl.1 hkl.2
  obtain ⟨wl,hwl⟩ : ∃ wl,wl=Ag l:=⟨_,rfl⟩
  obtain ⟨wn,hwn⟩ : ∃ wn,wn=Ag (Du l key):=⟨_,rfl⟩
  obtain ⟨wx,hwx⟩ : ∃ wx,wx=16+(key,v).1.length+(key,v).2.length:=⟨_,rfl⟩
  rw [← hwx] at hwg
  have hcl:=h.cells
  rw [← hwl] at hcl c1 hw
  have hsub : IntKind.i64.wrap ((wl : Int) - (wx : Int))=(wn : Int):=by
   have h3 : wl=wx+wn:=by rw [hwl,hwn,hwx]; exact hwt
   rw [show (wl : Int) - (wx : Int)=(wn : Int) by omega]
   simp [IntKind.wrap,IntKind.bits,IntKind.signed]
   omega
  have HN:=Ab (And.intro hwn hwl)
  have hV1:=Cm w (prO (key,v))
  have hVg:=Aq w (prO (key,v))
  have hVr:=hV1.keep hcl (fun h=>h)
  obtain ⟨V,hV⟩ : ∃ V,w.alloc (prO (key,v))=V:=⟨_,rfl⟩
  rw [hV] at hV1 hVg hVr
  have x0:=Ad hVg 0
  have x1:=Ad hVg 1
  have r1:=Ad hVr 1
  simp only [List.getElem?_toArray,List.getElem?_cons_zero,List.getElem?_cons_succ] at x0 x1 r1
  have hV2:=hV1.trans (Cm V.drew (prO (key,v))).undrew (fun _ _ h=>h)
  have hUr:=(Cm V.drew (prO (key,v))).keep (show V.drew.heap[g]? = _ from hVr) (fun h=>h)
  have hUg:=(Cm V.drew (prO (key,v))).keep (show V.drew.heap[w.heap.size]? = _ from hVg) (fun h=>h)
  have hgl:=At hcl
  have hbl:=h.map.lt
  have hgb:=h.ne
  obtain ⟨U,hU⟩ : ∃ U,V.drew.alloc (prO (key,v))=U:=⟨_,rfl⟩
  rw [hU] at hV2 hUr hUg
  have u1:=Ad hUr 1
  have y0:=Ad hUg 0
  have y1:=Ad hUg 1
  simp only [List.getElem?_toArray,List.getElem?_cons_zero,List.getElem?_cons_succ] at u1 y0 y1
  have u2:=Au hUr 1
  have hX:=Ax hUr 1 (.int .i64 (wn : Int))
  have hXc : Chg (fun k=>k=g∨k=b) w (U.setCell ⟨g,1,none⟩ (.int .i64 (wn : Int))):=(hV2.mono fun _ _ h=>h.elim).setCell (.inl (.inl rfl)) _
  have hXg:=Ct (p:=⟨g,1,none⟩) (u:=.int .i64 (wn : Int)) hUg (by simp; omega)
  have hXm : Ak (U.setCell ⟨g,1,none⟩ (.int .i64 (wn : Int))) b (rv l):=h.map.same ((Below.heap_setCell _ _ _ _ (by simp; omega)).trans (hV2.block b hbl (fun h=>h)))
  obtain ⟨X,hXe⟩ : ∃ X,U.setCell ⟨g,1,none⟩ (.int .i64 (wn : Int))=X:=⟨_,rfl⟩
  rw [hXe] at hX hXc hXg hXm
  simp only [List.setIfInBounds_toArray,List.set_cons_zero,List.set_cons_succ] at hX
  have z0:=Ad hXg 0
  have z1:=Ad hXg 1
  have m0:=Ad hX 0
  simp only [List.getElem?_toArray,List.getElem?_cons_zero,List.getElem?_cons_succ] at z0 z1 m0
  rw [hl] at hXm
  obtain ⟨W4,hdel,hm4,hc4,hs4⟩:=Ak.drop_old (x:=.string (Ae key)) (l:=rv (a++c)) (hXm.perm (rv_mid a c (key,v))) (kstr X) (Hx _) Tryz.underlying95 ⟨_,rfl⟩ 0 9
  have HF : Hid (RowsAt W4 g b (Du l key)∧Chg (fun k=>k=g∨k=b) w W4):=Ab ⟨⟨by rw [← HN.out.1]; exact hc4.keep hX hgb,by rw [he]; exact hm4,hrl⟩,hXc.then (hc4.mono fun _ _ h=>.inr h)⟩
  clear hwt hl he hne hrl h hwn hwl hwx hV1 hVg hVr hV2 hUr hUg hX hXc hXg hXm hm4 hc4 hs4 hcl hkl
  go_enter Tryz.func80,Tryz.ntmps80
  go_wp2_with fail
  refine wp_region_held_drew (S:=fun W=>W.cell? ⟨w.heap.size,0,none⟩=some (.string (Ae key))∧W.cell? ⟨w.heap.size,1,none⟩=some (.string (Ae v))) (by kernel_rfl) (⟨x0,x1⟩) (fun hHeld=>?_)
  refine Aa (i:=0) (v:=?_) rfl (by kernel_rfl) (by kernel_rfl) (by kernel_rfl) (fun _ _ _ h=>h) rfl ?_ hHeld ?_
  rotate_left
  ·intro w hS; (try dsimp only at hS); obtain ⟨hS0,hS1⟩:=hS; go_simp; first | done | (with_reducible rfl)
  try simp only [Act.put,List.setIfInBounds_toArray,List.set_cons_zero,List.set_cons_succ]
  refine Aa (i:=1) (v:=?_) rfl (by kernel_rfl) (by kernel_rfl) (by kernel_rfl) (fun _ _ _ h=>h) rfl ?_ hHeld ?_
  rotate_left
  ·intro w hS; (try dsimp only at hS); obtain ⟨hS0,hS1⟩:=hS; go_simp; first | done | (with_reducible rfl)
  try simp only [Act.put,List.setIfInBounds_toArray,List.set_cons_zero,List.set_cons_succ]
  refine Aa (i:=2) (v:=?_) rfl (by kernel_rfl) (by kernel_rfl) (by kernel_rfl) (fun _ _ _ h=>h) rfl ?_ hHeld ?_
  rotate_left
  ·intro w hS; (try dsimp only at hS); obtain ⟨hS0,hS1⟩:=hS; go_simp; first | done | (with_reducible rfl)
  try simp only [Act.put,List.setIfInBounds_toArray,List.set_cons_zero,List.set_cons_succ]
  refine Aa (i:=4) (v:=?_) rfl (by kernel_rfl) (by kernel_rfl) (by kernel_rfl) (fun _ _ _ h=>h) rfl ?_ hHeld ?_
  rotate_left
  ·intro w hS; (try dsimp only at hS); obtain ⟨hS0,hS1⟩:=hS; go_simp; first | done | (with_reducible rfl)
  try simp only [Act.put,List.setIfInBounds_toArray,List.set_cons_zero,List.set_cons_succ]
  refine twoH (i:=3) (j:=5) rfl rfl (by kernel_rfl) rfl rfl (fun K hK=>?_) (fun K hK=>?_)
  ·go_simp
   refine hK.out _ _ (⟨x0,x1⟩) (fun hHeld=>?_)
   clear hK K
   try simp only [Act.put,List.setIfInBounds_toArray,List.set_cons_zero,List.set_cons_succ]
   refine An (i:=5) rfl (by kernel_rfl) rfl (fun K hK=>?_)
   go_simp
   refine (hwg _).mono ?_
   rintro e w1 ⟨rfl,rfl⟩
   rw [hU]
   refine hK.out _ _ (⟨y0,y1⟩) (fun hHeld=>?_)
   clear hK K
   try simp only [Act.put,List.setIfInBounds_toArray,List.set_cons_zero,List.set_cons_succ]
   refine Aa (i:=6) (v:=?_) rfl (by kernel_rfl) (by kernel_rfl) (by kernel_rfl) (fun _ _ _ h=>h) rfl ?_ hHeld ?_
   rotate_left
   ·intro w hS; (try dsimp only at hS); obtain ⟨hS0,hS1⟩:=hS; go_simp; first | done | (with_reducible rfl)
   try simp only [Act.put,List.setIfInBounds_toArray,List.set_cons_zero,List.set_cons_succ]
   refine Aa (i:=7) (v:=?_) rfl (by kernel_rfl) (by kernel_rfl) (by kernel_rfl) (fun _ _ _ h=>h) rfl ?_ hHeld ?_
   rotate_left
   ·intro w hS; (try dsimp only at hS); obtain ⟨hS0,hS1⟩:=hS; go_simp; first | done | (with_reducible rfl)
   try simp only [Act.put,List.setIfInBounds_toArray,List.set_cons_zero,List.set_cons_succ]
   refine Aa (i:=8) (v:=?_) rfl (by kernel_rfl) (by kernel_rfl) (by kernel_rfl) (fun _ _ _ h=>h) rfl ?_ hHeld ?_
   rotate_left
   ·intro w hS; (try dsimp only at hS); obtain ⟨hS0,hS1⟩:=hS; go_simp; first | done | (with_reducible rfl)
   try simp only [Act.put,List.setIfInBounds_toArray,List.set_cons_zero,List.set_cons_succ]
   refine An (i:=9) rfl (by kernel_rfl) rfl (fun K hK=>?_)
   go_simp
   refine hK.out _ _ (⟨z0,z1⟩) (fun hHeld=>?_)
   clear hK K
   try simp only [Act.put,List.setIfInBounds_toArray,List.set_cons_zero,List.set_cons_succ]
   refine wpAnyH_done (by kernel_rfl) ?_ _
   clear hHeld
   go_wp2
   go_end0
   exact ⟨rfl,HF.out.1,HF.out.2⟩
  ·go_simp
   refine (hwg _).mono ?_
   rintro e w1 ⟨rfl,rfl⟩
   rw [hU]
   refine hK.out _ _ (⟨y0,y1⟩) (fun hHeld=>?_)
   clear hK K
   try simp only [Act.put,List.setIfInBounds_toArray,List.set_cons_zero,List.set_cons_succ]
   refine An (i:=3) rfl (by kernel_rfl) rfl (fun K hK=>?_)
   go_simp
   refine hK.out _ _ (⟨y0,y1⟩) (fun hHeld=>?_)
   clear hK K
   try simp only [Act.put,List.setIfInBounds_toArray,List.set_cons_zero,List.set_cons_succ]
   refine Aa (i:=6) (v:=?_) rfl (by kernel_rfl) (by kernel_rfl) (by kernel_rfl) (fun _ _ _ h=>h) rfl ?_ hHeld ?_
   rotate_left
   ·intro w hS; (try dsimp only at hS); obtain ⟨hS0,hS1⟩:=hS; go_simp; first | done | (with_reducible rfl)
   try simp only [Act.put,List.setIfInBounds_toArray,List.set_cons_zero,List.set_cons_succ]
   refine Aa (i:=7) (v:=?_) rfl (by kernel_rfl) (by kernel_rfl) (by kernel_rfl) (fun _ _ _ h=>h) rfl ?_ hHeld ?_
   rotate_left
   ·intro w hS; (try dsimp only at hS); obtain ⟨hS0,hS1⟩:=hS; go_simp; first | done | (with_reducible rfl)
   try simp only [Act.put,List.setIfInBounds_toArray,List.set_cons_zero,List.set_cons_succ]
   refine Aa (i:=8) (v:=?_) rfl (by kernel_rfl) (by kernel_rfl) (by kernel_rfl) (fun _ _ _ h=>h) rfl ?_ hHeld ?_
   rotate_left
   ·intro w hS; (try dsimp only at hS); obtain ⟨hS0,hS1⟩:=hS; go_simp; first | done | (with_reducible rfl)
   try simp only [Act.put,List.setIfInBounds_toArray,List.set_cons_zero,List.set_cons_succ]
   refine An (i:=9) rfl (by kernel_rfl) rfl (fun K hK=>?_)
   go_simp
   refine hK.out _ _ (⟨z0,z1⟩) (fun hHeld=>?_)
   clear hK K
   try simp only [Act.put,List.setIfInBounds_toArray,List.set_cons_zero,List.set_cons_succ]
   refine wpAnyH_done (by kernel_rfl) ?_ _
   clear hHeld
   go_wp2
   go_end0
   exact ⟨rfl,HF.out.1,HF.out.2⟩
end Go.Proofs.YtblniomnhpedjaaGreatDoor
