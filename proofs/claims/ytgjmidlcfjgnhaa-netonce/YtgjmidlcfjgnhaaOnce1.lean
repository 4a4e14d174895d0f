/-
  NetOnce's net, who serves, and the map of what came back, side by side. No condition beyond what is told.
-/
import Derived.Test.YtgjmidlcfjgnhaaOnce0
namespace Go.Proofs.Ytgjmidlcfjgnhaa
open Go.RowKit

abbrev osv (mb : Nat) : Value := .func (.func 18) #[] #[.pointer (some ⟨mb, 0, none⟩)]
theorem serveL_two (cs : List Bs) (y : Sg (List Bs)) (hc : ∀ s ∈ cs, two s) (ho : ∀ s ∈ y.out, two s) (hb : ∀ s ∈ y.bk, two s) : (∀ s ∈ (serveL ostep cs y).out, two s) ∧ ∀ s ∈ (serveL ostep cs y).bk, two s := by
  induction cs generalizing y with
  | nil => exact ⟨ho, hb⟩
  | cons c r ih =>
    have hc0 : two c := hc c (by simp)
    have e : serveL ostep (c :: r) y = serveL ostep r (stepS ostep y c) := rfl
    have hs : (ostep y.st c).1 ≠ [] := fun h => by
      have h : c = [] := h
      rw [h] at hc0
      cases hc0
    have e3 : stepS ostep y c = ⟨y.out ++ (goP y.fs y.bk c).1, (goP y.fs y.bk c).2.1, (goP y.fs y.bk c).2.2, y.st ++ [c]⟩ := by rw [stepS_some hs]; rfl
    rw [e, e3]
    have hg := goP_all (ok := two) (fs := y.fs) (fun f s h => by show (turnP f s).length = 2; rw [turnP_length]; exact h) hc0 hb
    refine ih _ (fun s hs => hc s (by simp [hs])) (fun s hs => ?_) hg.2
    rcases List.mem_append.1 hs with q | q
    · exact ho s q
    · exact hg.1 s q
structure OnceAt (w wr : World) (n mb mm bm : Nat) (x : Nt) (G : Gn) (H : Nat → Prop) (m : Nat) (st outs : List Bs) : Prop where
  net : NetW wr n (osv mb) x G two
  srv : OSv w.heap.size mb mm wr H m st
  map : MapN wr bm (cntK outs)
  gh : ∀ k, G.has n k → ¬ H k
  gb : ∀ k, G.has n k → w.heap.size ≤ k
  bg : ¬ G.has n bm
  bh : ¬ H bm
  bb : w.heap.size ≤ bm
  bel : Below w.heap.size w wr
  two : ∀ s ∈ outs, two s
  bk2 : ∀ s ∈ x.bk, Go.Proofs.Ytgjmidlcfjgnhaa.two s
section
variable {w wr w' : World} {n mb mm bm : Nat} {x : Nt} {G : Gn} {H : Nat → Prop} {m : Nat} {st outs : List Bs}
theorem OnceAt.keep {F : Nat → Prop} (h : OnceAt w wr n mb mm bm x G H m st outs) (hc : Chg F wr w') (h1 : ∀ k, F k → ¬ G.has n k ∧ ¬ H k ∧ k ≠ bm ∧ w.heap.size ≤ k) : OnceAt w w' n mb mm bm x G H m st outs :=
  ⟨h.net.keep hc (fun k hk hF => (h1 k hF).1 hk), (once_serves _ _ _).keep _ _ _ _ _ _ h.srv hc (fun k hk hF => (h1 k hF).2.1 hk) (fun k hF => (h1 k hF).2.2.2), h.map.keep hc (fun hF => (h1 bm hF).2.2.1 rfl), h.gh, h.gb, h.bg, h.bh, h.bb, h.bel.trans (hc.below (fun k hF => (h1 k hF).2.2.2) h.bel.size), h.two, h.bk2⟩
theorem OnceAt.drew (h : OnceAt w wr n mb mm bm x G H m st outs) : OnceAt w wr.drew n mb mm bm x G H m st outs := h.keep ((Chg.refl (fun _ => False) wr).drew) (fun _ h => h.elim)
theorem OnceAt.hb (h : OnceAt w wr n mb mm bm x G H m st outs) : ∀ k, H k → w.heap.size ≤ k := fun k hk => by
  obtain ⟨h1, h2, h3, h4, h5, h6, h7⟩ := h.srv
  rcases (h5 k).1 hk with rfl | rfl
  · exact h6
  · exact h7
/-- Behind an Ask. -/
theorem OnceAt.asked (h : OnceAt w wr n mb mm bm x G H m st outs) {x' : Nt} {G' : Gn} {H' : Nat → Prop} {m' : Nat} {st' : List Bs} (hN : NetW w' n (osv mb) x' G' Go.Proofs.Ytgjmidlcfjgnhaa.two) (hV : OSv w.heap.size mb mm w' H' m' st')
    (h1 : ∀ k, G'.has n k → ¬ H' k) (h2 : ∀ k, G'.has n k → G.has n k ∨ wr.heap.size ≤ k) (h3 : ∀ k, H' k → H k ∨ wr.heap.size ≤ k) (hc : Chg (fun k => G.has n k ∨ H k) wr w') (hb : ∀ s ∈ x'.bk, Go.Proofs.Ytgjmidlcfjgnhaa.two s) : OnceAt w w' n mb mm bm x' G' H' m' st' outs := by
  have hz := h.bel.size
  have hbl := h.map.lt
  refine ⟨hN, hV, h.map.keep hc (fun hF => hF.elim h.bg h.bh), h1, fun k hk => ?_, fun hk => ?_, fun hk => ?_, h.bb, h.bel.trans (hc.below (fun k hF => hF.elim (h.gb k) (h.hb k)) hz), h.two, hb⟩
  · rcases h2 k hk with q | q
    · exact h.gb k q
    · omega
  · rcases h2 bm hk with q | q
    · exact h.bg q
    · omega
  · rcases h3 bm hk with q | q
    · exact h.bh q
    · omega
/-- What came back is noted. -/
theorem OnceAt.noted (h : OnceAt w wr n mb mm bm x G H m st outs) {s : Bs} (hs : Go.Proofs.Ytgjmidlcfjgnhaa.two s) : ∃ w2, (Instr.lookup 41 (.map (some bm)) (.int .i64 (key s : Int)) false).run Try.prog wr = .ok (.int .i64 (cntK outs (key s) : Int)) wr ∧
    (Instr.mapUpdate 41 (.map (some bm)) (.int .i64 (key s : Int)) (.int .i64 ((cntK outs (key s) : Int) + 1))).run Try.prog wr = .ok () w2 ∧ OnceAt w w2 n mb mm bm x G H m st (outs ++ [s]) ∧ Chg (· = bm) wr w2 := by
  obtain ⟨w2, hput, hm2, k2⟩ := h.map.put (key s) (cntK outs (key s) + 1)
  rw [cntK_setf] at hm2
  refine ⟨w2, h.map.look (key s), hput, ⟨h.net.keep k2 (fun k hk e => h.bg (e ▸ hk)), (once_serves _ _ _).keep _ _ _ _ _ _ h.srv k2 (fun k hk e => h.bh (e ▸ hk)) (fun k e => e ▸ h.bb), hm2, h.gh, h.gb, h.bg, h.bh, h.bb, h.bel.trans (k2.below (fun k e => e ▸ h.bb) h.bel.size), fun t ht => ?_, h.bk2⟩, k2⟩
  rcases List.mem_append.1 ht with q | q
  · exact h.two t q
  · simp at q
    subst q
    exact hs
/-- Ask, and all that is known behind it. -/
theorem OnceAt.ask (h : OnceAt w wr n mb mm bm x G H m st outs) {lo asked : List Bs} {L : Nat} (ho : Once x st outs lo asked L) {s : Bs} (hs : Go.Proofs.Ytgjmidlcfjgnhaa.two s) (hth : x.th.length ≤ 100) (hbk : x.bk.length ≤ 100000) (hse : x.sent ≤ 1000) (hm : 102 ≤ m) :
    Calls Try.prog 11 #[.pointer (some ⟨n, 0, none⟩), .string (strB s)] wr fun e w' => ∃ v G' H' x' st' out m', e = .returned v ∧ Own w' wr.heap.size v out ∧ OnceAt w w' n mb mm bm x' G' H' m' st' outs ∧ (∃ lo', Once x' st' (outs ++ out) lo' (asked ++ [s]) L) ∧ (∀ k, v.ownBlock = some k → ¬ G'.has n k ∧ ¬ H' k ∧ k ≠ bm) ∧ (∀ t ∈ out, Go.Proofs.Ytgjmidlcfjgnhaa.two t) ∧ out.length ≤ 20000000 ∧
      x'.th.length ≤ x.th.length + 1 ∧ x'.bk.length ≤ x.bk.length + 102 ∧ x'.sent = x.sent + 1 ∧ m ≤ m' + 102 ∧ x'.fs.length ≤ x.fs.length - 1 ∧ (x.fs = [] → x'.fs = [] ∧ x'.th = [] ∧ x'.bk = []) := by
  have hcome : (x.come s).length ≤ 102 := by
    have := goP_out x.fs x.th s
    show (goP x.fs x.th s).1.length ≤ _
    omega
  have hne : s ≠ [] := fun e => by rw [e] at hs; cases hs
  have htn : ∀ t ∈ x.th, t ≠ [] := fun t ht e => by have := h.net.ok1 t ht; rw [e] at this; cases this
  refine (ask_any (once_serves _ mb mm) wr n x G H m st s h.net h.srv h.gh h.bel.size h.gb hs (by omega) (by omega) (by omega) (by omega) (by omega)).mono ?_
  rintro e w' ⟨v, G', H', rfl, hov, hN', hV', h1, h2, h3, h4, hc⟩
  obtain ⟨hon, hfl, hst⟩ := ho.ask s hne htn
  have hgt := goP_all (ok := Go.Proofs.Ytgjmidlcfjgnhaa.two) (fs := x.fs) (fun f s h => by show (turnP f s).length = 2; rw [turnP_length]; exact h) hs h.net.ok1
  obtain ⟨t1, t2⟩ := serveL_two (x.come s) ⟨[], (goP x.fs x.th s).2.1, x.bk, st⟩ hgt.1 (fun s hs => by cases hs) h.bk2
  have hfew := serveL_few ostep (x.come s) ⟨[], (goP x.fs x.th s).2.1, x.bk, st⟩
  have f1 : (x.served ostep st s).bk.length ≤ x.bk.length + (x.come s).length := hfew.1
  have f2 : (x.served ostep st s).out.length ≤ 0 + (x.come s).length * (x.bk.length + (x.come s).length + 2) := hfew.2
  have f3 : (x.come s).length * (x.bk.length + (x.come s).length + 2) ≤ 102 * 100200 := Nat.mul_le_mul hcome (by omega)
  refine ⟨v, G', H', x.ask ostep st s, _, (x.served ostep st s).out, _, rfl, hov, h.asked hN' hV' h1 h2 h3 hc t2, hon, fun k hk => ⟨(h4 k hk).1, (h4 k hk).2, fun e => ?_⟩, t1, by omega, goP_wait x.fs x.th s, ?_, rfl, by omega, hfl, fun hf => flush hf hne htn⟩
  · have := (own_lt hov hk).1
    have := h.map.lt
    omega
  · show (x.served ostep st s).bk.length ≤ _
    omega
end
end Go.Proofs.Ytgjmidlcfjgnhaa
