/-
  How many make the first node of a level, by the program. Conditions: keys of a length within reach; the table holds its numbers; lists lie there.
-/
import Derived.Test.YtckejblkppllaaaGreatDoorT21PRList
namespace Go.Proofs.YtckejblkppllaaaGreatDoor
open Go.RowKit
set_option maxRecDepth 20000 in
set_option maxHeartbeats 800000 in
theorem sizeP_any (w : World) (level : Nat) (v : Value) (l : List Ag) (hv : Ls w.heap.size w 2 Ak v l) (hT : Bh w) (hlv : level≤31) (hk : ∀ p∈l,p.1.length≤140737488355328) (hne : l ≠ []) :
  Calls Tryz.prog 157 #[.int .i64 (level : Int),v, .func (.func 158) #[] #[]] w fun e w'=>e = .returned (.int .i64 ((Cr (endE (fun p : Ag=>p.1) level) 0 l : Nat) : Int))∧Below w.heap.size w w':=by
 obtain ⟨ao,cap,rfl,h1,h2,h4⟩:=hv
 unfold maxLen at h2
 have hpos : 1≤l.length:=by cases l with | nil=>exact absurd rfl hne | cons _ _=>simp
 obtain ⟨j0,hj0,hls,hs0⟩ : ∃ j0 : Nat,(j0≤1∧(level=0∨1≤j0))∧(if level=0 then 1 else 2 : Int)=(j0 : Int)+1∧Dq (fun p : Ag=>p.1) level l j0:=by
  by_cases h : level=0
  ·exact ⟨0,⟨by omega, .inl h⟩,by rw [if_pos h]; rfl,Mo _ _ _⟩
  ·exact ⟨1,⟨by omega, .inr (by omega)⟩,by rw [if_neg h]; rfl,N6 _ _ (by omega) hpos⟩
 have HLS:=Ac hls
 have HS0:=Ac hs0
 clear hls hs0
 by_cases hq : l.length≤64
 ·
  go_enter Tryz.func157,Tryz.ntmps157
  go_wp2_with fail
  refine (Iu _ level).mono ?_
  rintro e w ⟨rfl,rfl⟩
  rw [HLS.out]
  go_wp2_with fail
  go_loopw [8] (fun t wr=>∃ j : Nat,t = .int .i64 ((j : Int)+1)∧j≤63∧j≤l.length∧(level=0∨1≤j)∧Dq (fun p : Ag=>p.1) level l j∧Below w.heap.size w wr)
   (fun t _=>66 - (intOf t).toNat)
  case atStart=>exact ⟨j0,rfl,by omega,by omega,by omega,HS0.out,Below.refl _ _⟩
  case round=>
   obtain ⟨j,rfl,hj2,hjl,hjv,hsz,hb⟩:=hrel
   have HB:=Ac hb
   have HG:=Ac hsz
   clear hsz hb
   by_cases hlt : j+1<l.length
   ·have hjp : j<l.length:=by omega
    obtain ⟨b,off,rfl,hbB,hc⟩:=h4 (by rintro rfl; simp at hjp)
    have c0:=(HB.out.cell (p:=⟨b,off+j * 2+0,none⟩) hbB).trans (hc j hjp 0 _ rfl)
    have c1:=(HB.out.cell (p:=⟨b,off+j * 2+1,none⟩) hbB).trans (hc j hjp 1 _ rfl)
    simp only [Nat.add_zero] at c0
    have hkl:=hk l[j] (by simp)
    have hee : ∀ q,endK level l[j].1=q→endK level ((fun p : Ag=>p.1) l[j])=q:=fun q h=>h
    have hhit:=fun he=>Jl (key:=(fun p : Ag=>p.1)) (level:=level) HG.out hjp hjv he
    have hnext:=fun he=>Iq (key:=(fun p : Ag=>p.1)) (level:=level) HG.out hjp (by omega) he
    generalize l[j]=x at *
    have hsub : (j : Int)+1 - 1=j:=by omega
    have hlt2 : (j : Int)+1<(l.length : Int):=by omega
    have HH:=Ac (And.intro hhit hnext)
    have hTr:=hT.keep HB.out hT.1
    clear hc hhit hnext hee h4
    go_wp2_with fail
    refine (keyP_any _ x).mono ?_
    rintro e w2 ⟨rfl,hb2⟩
    go_wp2_with fail
    refine (Jo _ level x.1 hlv hkl (hTr.keep hb2 hTr.1)).mono ?_
    rintro e w3 ⟨rfl,hb3⟩
    have HB3:=Ac (HB.out.trans ((hb2.trans (hb3.mono hb2.size)).mono HB.out.size))
    clear hb2 hb3
    cases he : endK level x.1 with
    | true=>
     have HE:=Ac (HH.out.1 he)
     clear he
     go_wp2
     go_ret
     exact ⟨by rw [HE.out]; rfl,HB3.out⟩
    | false=>
     have HE:=Ac (HH.out.2 he)
     clear he
     go_wp2
     go_roundw
     case rel=>exact ⟨j+1,by go_num,by omega,by omega,by omega,HE.out,HB3.out⟩
     case measure=>simp [intOf]; omega
   ·have HH:=Ac (size_all (key:=(fun p : Ag=>p.1)) (level:=level) HG.out (show j=l.length∨j+1=l.length by omega))
    have hlt2 : ¬ ((j : Int)+1<(l.length : Int)):=by omega
    go_wp2
    go_ret
    exact ⟨by rw [HH.out]; rfl,HB.out⟩
 ·
  go_enter Tryz.func157,Tryz.ntmps157
  go_wp2_with fail
  refine (Iu _ level).mono ?_
  rintro e w ⟨rfl,rfl⟩
  rw [HLS.out]
  go_wp2_with fail
  go_loopw [8] (fun t wr=>∃ j : Nat,t = .int .i64 ((j : Int)+1)∧j≤63∧j≤l.length∧(level=0∨1≤j)∧Dq (fun p : Ag=>p.1) level l j∧Below w.heap.size w wr)
   (fun t _=>66 - (intOf t).toNat)
  case atStart=>exact ⟨j0,rfl,by omega,by omega,by omega,HS0.out,Below.refl _ _⟩
  case round=>
   obtain ⟨j,rfl,hj2,hjl,hjv,hsz,hb⟩:=hrel
   have HB:=Ac hb
   have HG:=Ac hsz
   clear hsz hb
   by_cases hlt : j+1<64
   ·have hjp : j<l.length:=by omega
    obtain ⟨b,off,rfl,hbB,hc⟩:=h4 (by rintro rfl; simp at hjp)
    have c0:=(HB.out.cell (p:=⟨b,off+j * 2+0,none⟩) hbB).trans (hc j hjp 0 _ rfl)
    have c1:=(HB.out.cell (p:=⟨b,off+j * 2+1,none⟩) hbB).trans (hc j hjp 1 _ rfl)
    simp only [Nat.add_zero] at c0
    have hkl:=hk l[j] (by simp)
    have hee : ∀ q,endK level l[j].1=q→endK level ((fun p : Ag=>p.1) l[j])=q:=fun q h=>h
    have hhit:=fun he=>Jl (key:=(fun p : Ag=>p.1)) (level:=level) HG.out hjp hjv he
    have hnext:=fun he=>Iq (key:=(fun p : Ag=>p.1)) (level:=level) HG.out hjp (by omega) he
    generalize l[j]=x at *
    have hsub : (j : Int)+1 - 1=j:=by omega
    have hlt2 : (j : Int)+1<(64 : Int):=by omega
    have HH:=Ac (And.intro hhit hnext)
    have hTr:=hT.keep HB.out hT.1
    clear hc hhit hnext hee h4
    go_wp2_with fail
    refine (keyP_any _ x).mono ?_
    rintro e w2 ⟨rfl,hb2⟩
    go_wp2_with fail
    refine (Jo _ level x.1 hlv hkl (hTr.keep hb2 hTr.1)).mono ?_
    rintro e w3 ⟨rfl,hb3⟩
    have HB3:=Ac (HB.out.trans ((hb2.trans (hb3.mono hb2.size)).mono HB.out.size))
    clear hb2 hb3
    cases he : endK level x.1 with
    | true=>
     have HE:=Ac (HH.out.1 he)
     clear he
     go_wp2
     go_ret
     exact ⟨by rw [HE.out]; rfl,HB3.out⟩
    | false=>
     have HE:=Ac (HH.out.2 he)
     clear he
     go_wp2
     go_roundw
     case rel=>exact ⟨j+1,by go_num,by omega,by omega,by omega,HE.out,HB3.out⟩
     case measure=>simp [intOf]; omega
   ·have HH:=Ac (size_most (key:=(fun p : Ag=>p.1)) (level:=level) (l:=l) (by have:=HG.out; rwa [show j=63 from by omega] at this) (by omega))
    have hlt2 : ¬ ((j : Int)+1<(64 : Int)):=by omega
    go_wp2
    go_ret
    exact ⟨by rw [HH.out]; rfl,HB.out⟩
set_option maxRecDepth 20000 in
set_option maxHeartbeats 800000 in
theorem sizeL_any (w : World) (level : Nat) (v : Value) (l : List Ah) (hv : Ls w.heap.size w 3 Au v l) (hT : Bh w) (hlv : level≤31) (hk : ∀ p∈l,p.1.length≤140737488355328) (hne : l ≠ []) :
  Calls Tryz.prog 159 #[.int .i64 (level : Int),v, .func (.func 160) #[] #[]] w fun e w'=>e = .returned (.int .i64 ((Cr (endE (fun p : Ah=>p.1) level) 0 l : Nat) : Int))∧Below w.heap.size w w':=by
 obtain ⟨ao,cap,rfl,h1,h2,h4⟩:=hv
 unfold maxLen at h2
 have hpos : 1≤l.length:=by cases l with | nil=>exact absurd rfl hne | cons _ _=>simp
 obtain ⟨j0,hj0,hls,hs0⟩ : ∃ j0 : Nat,(j0≤1∧(level=0∨1≤j0))∧(if level=0 then 1 else 2 : Int)=(j0 : Int)+1∧Dq (fun p : Ah=>p.1) level l j0:=by
  by_cases h : level=0
  ·exact ⟨0,⟨by omega, .inl h⟩,by rw [if_pos h]; rfl,Mo _ _ _⟩
  ·exact ⟨1,⟨by omega, .inr (by omega)⟩,by rw [if_neg h]; rfl,N6 _ _ (by omega) hpos⟩
 have HLS:=Ac hls
 have HS0:=Ac hs0
 clear hls hs0
 by_cases hq : l.length≤64
 ·
  go_enter Tryz.func159,Tryz.ntmps159
  go_wp2_with fail
  refine (Iu _ level).mono ?_
  rintro e w ⟨rfl,rfl⟩
  rw [HLS.out]
  go_wp2_with fail
  go_loopw [8] (fun t wr=>∃ j : Nat,t = .int .i64 ((j : Int)+1)∧j≤63∧j≤l.length∧(level=0∨1≤j)∧Dq (fun p : Ah=>p.1) level l j∧Below w.heap.size w wr)
   (fun t _=>66 - (intOf t).toNat)
  case atStart=>exact ⟨j0,rfl,by omega,by omega,by omega,HS0.out,Below.refl _ _⟩
  case round=>
   obtain ⟨j,rfl,hj2,hjl,hjv,hsz,hb⟩:=hrel
   have HB:=Ac hb
   have HG:=Ac hsz
   clear hsz hb
   by_cases hlt : j+1<l.length
   ·have hjp : j<l.length:=by omega
    obtain ⟨b,off,rfl,hbB,hc⟩:=h4 (by rintro rfl; simp at hjp)
    have c0:=(HB.out.cell (p:=⟨b,off+j * 3+0,none⟩) hbB).trans (hc j hjp 0 _ rfl)
    have c1:=(HB.out.cell (p:=⟨b,off+j * 3+1,none⟩) hbB).trans (hc j hjp 1 _ rfl)
    have c2:=(HB.out.cell (p:=⟨b,off+j * 3+2,none⟩) hbB).trans (hc j hjp 2 _ rfl)
    simp only [Nat.add_zero] at c0
    have hkl:=hk l[j] (by simp)
    have hee : ∀ q,endK level l[j].1=q→endK level ((fun p : Ah=>p.1) l[j])=q:=fun q h=>h
    have hhit:=fun he=>Jl (key:=(fun p : Ah=>p.1)) (level:=level) HG.out hjp hjv he
    have hnext:=fun he=>Iq (key:=(fun p : Ah=>p.1)) (level:=level) HG.out hjp (by omega) he
    generalize l[j]=x at *
    have hsub : (j : Int)+1 - 1=j:=by omega
    have hlt2 : (j : Int)+1<(l.length : Int):=by omega
    have HH:=Ac (And.intro hhit hnext)
    have hTr:=hT.keep HB.out hT.1
    clear hc hhit hnext hee h4
    go_wp2_with fail
    refine (keyL_any _ x).mono ?_
    rintro e w2 ⟨rfl,hb2⟩
    go_wp2_with fail
    refine (Jo _ level x.1 hlv hkl (hTr.keep hb2 hTr.1)).mono ?_
    rintro e w3 ⟨rfl,hb3⟩
    have HB3:=Ac (HB.out.trans ((hb2.trans (hb3.mono hb2.size)).mono HB.out.size))
    clear hb2 hb3
    cases he : endK level x.1 with
    | true=>
     have HE:=Ac (HH.out.1 he)
     clear he
     go_wp2
     go_ret
     exact ⟨by rw [HE.out]; rfl,HB3.out⟩
    | false=>
     have HE:=Ac (HH.out.2 he)
     clear he
     go_wp2
     go_roundw
     case rel=>exact ⟨j+1,by go_num,by omega,by omega,by omega,HE.out,HB3.out⟩
     case measure=>simp [intOf]; omega
   ·have HH:=Ac (size_all (key:=(fun p : Ah=>p.1)) (level:=level) HG.out (show j=l.length∨j+1=l.length by omega))
    have hlt2 : ¬ ((j : Int)+1<(l.length : Int)):=by omega
    go_wp2
    go_ret
    exact ⟨by rw [HH.out]; rfl,HB.out⟩
 ·
  go_enter Tryz.func159,Tryz.ntmps159
  go_wp2_with fail
  refine (Iu _ level).mono ?_
  rintro e w ⟨rfl,rfl⟩
  rw [HLS.out]
  go_wp2_with fail
  go_loopw [8] (fun t wr=>∃ j : Nat,t = .int .i64 ((j : Int)+1)∧j≤63∧j≤l.length∧(level=0∨1≤j)∧Dq (fun p : Ah=>p.1) level l j∧Below w.heap.size w wr)
   (fun t _=>66 - (intOf t).toNat)
  case atStart=>exact ⟨j0,rfl,by omega,by omega,by omega,HS0.out,Below.refl _ _⟩
  case round=>
   obtain ⟨j,rfl,hj2,hjl,hjv,hsz,hb⟩:=hrel
   have HB:=Ac hb
   have HG:=Ac hsz
   clear hsz hb
   by_cases hlt : j+1<64
   ·have hjp : j<l.length:=by omega
    obtain ⟨b,off,rfl,hbB,hc⟩:=h4 (by rintro rfl; simp at hjp)
    have c0:=(HB.out.cell (p:=⟨b,off+j * 3+0,none⟩) hbB).trans (hc j hjp 0 _ rfl)
    have c1:=(HB.out.cell (p:=⟨b,off+j * 3+1,none⟩) hbB).trans (hc j hjp 1 _ rfl)
    have c2:=(HB.out.cell (p:=⟨b,off+j * 3+2,none⟩) hbB).trans (hc j hjp 2 _ rfl)
    simp only [Nat.add_zero] at c0
    have hkl:=hk l[j] (by simp)
    have hee : ∀ q,endK level l[j].1=q→endK level ((fun p : Ah=>p.1) l[j])=q:=fun q h=>h
    have hhit:=fun he=>Jl (key:=(fun p : Ah=>p.1)) (level:=level) HG.out hjp hjv he
    have hnext:=fun he=>Iq (key:=(fun p : Ah=>p.1)) (level:=level) HG.out hjp (by omega) he
    generalize l[j]=x at *
    have hsub : (j : Int)+1 - 1=j:=by omega
    have hlt2 : (j : Int)+1<(64 : Int):=by omega
    have HH:=Ac (And.intro hhit hnext)
    have hTr:=hT.keep HB.out hT.1
    clear hc hhit hnext hee h4
    go_wp2_with fail
    refine (keyL_any _ x).mono ?_
    rintro e w2 ⟨rfl,hb2⟩
    go_wp2_with fail
    refine (Jo _ level x.1 hlv hkl (hTr.keep hb2 hTr.1)).mono ?_
    rintro e w3 ⟨rfl,hb3⟩
    have HB3:=Ac (HB.out.trans ((hb2.trans (hb3.mono hb2.size)).mono HB.out.size))
    clear hb2 hb3
    cases he : endK level x.1 with
    | true=>
     have HE:=Ac (HH.out.1 he)
     clear he
     go_wp2
     go_ret
     exact ⟨by rw [HE.out]; rfl,HB3.out⟩
    | false=>
     have HE:=Ac (HH.out.2 he)
     clear he
     go_wp2
     go_roundw
     case rel=>exact ⟨j+1,by go_num,by omega,by omega,by omega,HE.out,HB3.out⟩
     case measure=>simp [intOf]; omega
   ·have HH:=Ac (size_most (key:=(fun p : Ah=>p.1)) (level:=level) (l:=l) (by have:=HG.out; rwa [show j=63 from by omega] at this) (by omega))
    have hlt2 : ¬ ((j : Int)+1<(64 : Int)):=by omega
    go_wp2
    go_ret
    exact ⟨by rw [HH.out]; rfl,HB.out⟩
end Go.Proofs.YtckejblkppllaaaGreatDoor
