/-
  The reference's Right. Conditions: the puts lie there.
-/
import Derived.Test.YtblniomnhpedjaaGreatDoorP31TLog
namespace Go.Proofs.YtblniomnhpedjaaGreatDoor
open Go.RowKit
set_option maxRecDepth 40000 in
set_option maxHeartbeats 1600000 in
theorem rright_any (w : World) (l : List An) (v : Value) (hv : PsT w v l) (hn : l.length≤140737488355328) :
  Calls Tryz.prog 36 #[v] w fun e w'=>e = .returned (.bool (Bc l))∧Chg (fun _=>False) w w':=by
 obtain ⟨ao,cap,rfl,h1,h2,h4⟩:=hv
 unfold maxLen at h2
 go_enter Tryz.func36,Tryz.ntmps36
 go_wp2_with fail
 go_loopw [4,3] (fun t u wr=>∃ k : Nat,k≤l.length∧t = .int .i64 k∧u = .int .i64 (Bk (l.take k))∧Bk (l.take k)≤k * 6144∧(l.take k).all Cp=true∧Chg (fun _=>False) w wr)
  (fun t _ _=>l.length - (intOf t).toNat)
 case atStart=>exact ⟨0,by omega,rfl,rfl,by simp [Bk],rfl,Chg.refl _ _⟩
 case round=>
  obtain ⟨k,hk,rfl,rfl,hsum,hok,hch⟩:=hrel
  by_cases hlt : k<l.length
  ·obtain ⟨b,off,rfl,hbl,hc⟩:=h4 (by intro e; rw [e] at hlt; simp at hlt)
   have c0:=(World.cell?_of_block (w:=w) (a:=⟨b,off+k * 3+0,none⟩) (hch.block b hbl (fun h=>h))).trans (hc k hlt 0 _ rfl)
   have c1:=(World.cell?_of_block (w:=w) (a:=⟨b,off+k * 3+1,none⟩) (hch.block b hbl (fun h=>h))).trans (hc k hlt 1 _ rfl)
   have c2:=(World.cell?_of_block (w:=w) (a:=⟨b,off+k * 3+2,none⟩) (hch.block b hbl (fun h=>h))).trans (hc k hlt 2 _ rfl)
   have hno:=fun h=>right_no (l:=l) hlt h
   have hst:=fun h=>Nr (l:=l) hlt hok h
   have htt:=K7 l hlt
   generalize l[k]=x at *
   have hb1:=hch.trans (Cl wr (Bd x)) (fun _ _ h=>h)
   have hx1:=B1 x.1
   have hx2:=B1 x.2.1
   have hne:=N6 9 x.2.1
   obtain ⟨tk,htk⟩ : ∃ tk,tk=Bk (l.take k):=⟨_,rfl⟩
   obtain ⟨tn,htn⟩ : ∃ tn,tn=Bk (l.take (k+1)):=⟨_,rfl⟩
   rw [← htk] at htt hsum
   rw [← htn] at htt
   rw [← htk]
   have hput : Cp x=(!decide (2048<x.1.length) && !decide (4096<x.2.1.length) && !(x.2.2 && !x.2.1.isEmpty)):=rfl
   have HH:=Ab (And.intro hno (And.intro hst (And.intro hb1 (And.intro hput (And.intro htt (And.intro hsum htn))))))
   try simp only [Nat.add_zero] at c0 c1 c2
   clear hno hst hb1 hput hc hch hok htt htk htn hsum
   have HB1:=Ab HH.out.2.2.1
   by_cases hk1 : 2048<x.1.length
   ·have qa : decide ((2048 : Int)<(x.1.length : Int))=true:=decide_eq_true (by omega)
    have HN : Hid (Bc l=false):=Ab (HH.out.1 (by rw [HH.out.2.2.2.1,decide_eq_true hk1]; rfl))
    go_wp2
    go_ret
    exact ⟨by rw [HN.out]; rfl,HB1.out⟩
   have qa : decide ((2048 : Int)<(x.1.length : Int))=false:=decide_eq_false (by omega)
   by_cases hk2 : 4096<x.2.1.length
   ·have qb : decide ((4096 : Int)<(x.2.1.length : Int))=true:=decide_eq_true (by omega)
    have HN : Hid (Bc l=false):=Ab (HH.out.1 (by rw [HH.out.2.2.2.1,decide_eq_false hk1,decide_eq_true hk2]; rfl))
    go_wp2
    go_ret
    exact ⟨by rw [HN.out]; rfl,HB1.out⟩
   have qb : decide ((4096 : Int)<(x.2.1.length : Int))=false:=decide_eq_false (by omega)
   have hadd1 : IntKind.i64.wrap ((tk : Int)+(x.1.length : Int))=(tk : Int)+(x.1.length : Int):=by
    have h4:=HH.out.2.2.2.2.2.1
    simp [IntKind.wrap,IntKind.bits,IntKind.signed]
    omega
   have hadd2 : IntKind.i64.wrap ((tk : Int)+(x.1.length : Int)+(x.2.1.length : Int))=(tn : Int):=by
    have h3:=HH.out.2.2.2.2.1
    have h4:=HH.out.2.2.2.2.2.1
    rw [show (tk : Int)+(x.1.length : Int)+(x.2.1.length : Int)=(tn : Int) by omega]
    simp [IntKind.wrap,IntKind.bits,IntKind.signed]
    omega
   cases hgo : x.2.2 with
   | false=>
    rw [hgo] at c2
    have hb1:=HH.out.2.2.1
    simp only [Bd,hgo] at hb1
    have HB1:=Ab hb1
    clear hb1
    have HN : Hid ((l.take (k+1)).all Cp=true):=Ab (HH.out.2.1 (by rw [HH.out.2.2.2.1,hgo,decide_eq_false hk1,decide_eq_false hk2]; rfl))
    go_wp2_with fail
    go_roundw
    case rel=>exact ⟨k+1,by omega,by go_num,by rw [← HH.out.2.2.2.2.2.2],by rw [← HH.out.2.2.2.2.2.2]; have:=HH.out.2.2.2.2.1; have:=HH.out.2.2.2.2.2.1; omega,HN.out,HB1.out⟩
    case measure=>simp [intOf]; omega
   | true=>
    rw [hgo] at c2
    have hb1:=HH.out.2.2.1
    simp only [Bd,hgo] at hb1
    have HB1:=Ab hb1
    clear hb1
    cases hem : x.2.1.isEmpty with
    | false=>
     rw [hem] at hne
     have HN : Hid (Bc l=false):=Ab (HH.out.1 (by rw [HH.out.2.2.2.1,hgo,hem,decide_eq_false hk1,decide_eq_false hk2]; rfl))
     go_wp2
     go_ret
     exact ⟨by rw [HN.out]; rfl,HB1.out⟩
    | true=>
     rw [hem] at hne
     have HN : Hid ((l.take (k+1)).all Cp=true):=Ab (HH.out.2.1 (by rw [HH.out.2.2.2.1,hgo,hem,decide_eq_false hk1,decide_eq_false hk2]; rfl))
     go_wp2_with fail
     go_roundw
     case rel=>exact ⟨k+1,by omega,by go_num,by rw [← HH.out.2.2.2.2.2.2],by rw [← HH.out.2.2.2.2.2.2]; have:=HH.out.2.2.2.2.1; have:=HH.out.2.2.2.2.2.1; omega,HN.out,HB1.out⟩
     case measure=>simp [intOf]; omega
  ·have hkl : k=l.length:=by omega
   subst hkl
   rw [List.take_length] at hok hsum ⊢
   have HC:=Ab hch
   by_cases hmany : l.length≤2000
   ·have qm : decide ((l.length : Int)≤2000)=true:=decide_eq_true (by omega)
    have HN : Hid (Bc l=decide (Bk l≤1048576)):=Ab (by unfold Bc; rw [hok,decide_eq_true hmany]; rfl)
    generalize Bk l=tt at *
    clear hok hch hsum
    by_cases hle : tt≤1048576
    ·have qz : decide ((tt : Int)≤1048576)=true:=decide_eq_true (by omega)
     rw [decide_eq_true hle] at HN
     go_wp2
     go_ret
     exact ⟨by rw [HN.out]; rfl,HC.out⟩
    ·have qz : decide ((tt : Int)≤1048576)=false:=decide_eq_false (by omega)
     rw [decide_eq_false hle] at HN
     go_wp2
     go_ret
     exact ⟨by rw [HN.out]; rfl,HC.out⟩
   ·have qm : decide ((l.length : Int)≤2000)=false:=decide_eq_false (by omega)
    have HN : Hid (Bc l=false):=Ab (by unfold Bc; rw [decide_eq_false hmany]; rfl)
    generalize Bk l=tt at *
    clear hok hch hsum
    go_wp2
    go_ret
    exact ⟨by rw [HN.out]; rfl,HC.out⟩
end Go.Proofs.YtblniomnhpedjaaGreatDoor
