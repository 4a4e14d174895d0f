/-
  Texts joined: DMem, DStep, DTake, DLink, DAsk.
-/
import Derived.Test.YtldfjpgcemfpjaaM23PRList
import Derived.Test.YtldfjpgcemfpjaaM19PRow
import Derived.Test.YtldfjpgcemfpjaaM24MChg
import Derived.Test.YtldfjpgcemfpjaaM6ORise
import Derived.Laws.StructEq
import Derived.Test.YtldfjpgcemfpjaaM21PRMany
import Derived.Laws.EntriesVeiled
/-
  How a comparing lies in memory. No condition.
-/
namespace Go.Proofs.Ytldfjpgcemfpjaa
open Go.RowKit

/-- Maps, and rows of other types than a get moves. -/
def offA : Obj → Bool
  | .cells _ t _ => !(ats.contains t)
  | .map _ _ => true
  | _ => false
/-- These stay. -/
def Kp (w w' : World) : Prop := ∀ (k : Nat) (ob : Obj), w.heap[k]? = some ob → offA ob = true → w'.heap[k]? = some ob
theorem Kp.refl (w : World) : Kp w w := fun _ _ h _ => h
theorem Kp.of {w w' : World} (h : Below w.heap.size w w') : Kp w w' := fun k _ hk _ => (h.block k (lt_of_heap hk)).trans hk
theorem Kp.own {w w' : World} (h : Kp w w') {B k n : Nat} {e : TypeId} {v : Value} {xs : List Value} (hr : w.ownsRow B e k v n xs) (he : ats.contains e = false) : w'.ownsRow B e k v n xs := by
  refine own_same hr (fun g hg => ?_)
  obtain ⟨c, fz, h1⟩ := Lib.ownsRow_kind hr g hg
  rw [h g _ h1 (by show (!(ats.contains e)) = true; rw [he]; rfl), h1]
abbrev ptC (a : Nat) : List Value := [.pointer (some ⟨a, 0, none⟩)]
def ndC (n : Nd) (bp : Value) : Array Value := #[.string (strB n.link.1), .string (strB n.link.2.1), .int .i64 n.link.2.2, .int .i64 n.level, .bool n.on.1, .bool n.on.2, bp]
structure Gh where
  ad : Bs → Nat
  tg : Nat → Nat
  rv : Nat → Value
/-- What a node's bytes say lies in block g. -/
def BodyAt (B : Nat) (w : World) (tg : Nat → Nat) (g : Nat) (n : NodeM) : Prop :=
  ∃ vk vp, w.heap[g]? = some (.cells #[.int .i64 n.1, vk, vp] 107) ∧ Rw B w 81 3 linkC vk n.2.2 ∧ Rw B w 48 2 pairC vp n.2.1 ∧ ∀ q, vp.ownBlock = some q → tg q = 4
def BpW (B : Nat) (w : World) (tg : Nat → Nat) (bp : Value) : Option NodeM → Prop
  | none => bp = .pointer none
  | some n => ∃ g, bp = .pointer (some ⟨g, 0, none⟩) ∧ BodyAt B w tg g n
def metK (ad : Bs → Nat) (l : List Bs) : List (Value × Value) := l.map fun id => (.string (strB id), .pointer (some ⟨ad id, 0, none⟩))
structure CmW (B : Nat) (w : World) (c mb : Nat) (gv : Value) (S : Gh) (σ : Cm) : Prop where
  base : B ≤ c
  blk : ∃ cs : Array Value, w.heap[c]? = some (.cells cs 60) ∧ cs.size = 46 ∧ cs[0]? = some gv ∧ cs[1]? = some (.map (some mb)) ∧ ∀ k, k < 44 → cs[k + 2]? = some (S.rv k)
  levs : ∀ i, i < 2 → ∀ l, l < 21 → Rw B w 111 1 ptC (S.rv (22 * i + l)) ((σ.lev i l).map S.ad)
  prs : ∀ i, i < 2 → Rw B w 48 2 pairC (S.rv (22 * i + 21)) (σ.prs i)
  tags : ∀ k, k < 44 → ∀ q, (S.rv k).ownBlock = some q → S.tg q = 10 + k
  nodes : ∀ id ∈ σ.met, ∃ bp, w.heap[S.ad id]? = some (.cells (ndC (σ.nd id) bp) 110) ∧ BpW B w S.tg bp (σ.nd id).body ∧ B ≤ S.ad id
  map : Mp.MapW w mb (metK S.ad σ.met)
  mbB : B ≤ mb
theorem BodyAt.keep {B : Nat} {w w' : World} {tg tg' : Nat → Nat} {g : Nat} {n : NodeM} (h : BodyAt B w tg g n) (hg : ∀ cs, w.heap[g]? = some (.cells cs 107) → w'.heap[g]? = some (.cells cs 107))
    (hk : ∀ v (xs : List Link), Rw B w 81 3 linkC v xs → Rw B w' 81 3 linkC v xs) (hp : ∀ v (xs : List Pair), Rw B w 48 2 pairC v xs → (∀ q, v.ownBlock = some q → tg q = 4) → Rw B w' 48 2 pairC v xs ∧ ∀ q, v.ownBlock = some q → tg' q = 4) : BodyAt B w' tg' g n := by
  obtain ⟨vk, vp, h1, h2, h3, h4⟩ := h
  exact ⟨vk, vp, hg _ h1, hk _ _ h2, (hp _ _ h3 h4).1, (hp _ _ h3 h4).2⟩
theorem BpW.keep {B : Nat} {w w' : World} {tg tg' : Nat → Nat} {bp : Value} {o : Option NodeM} (h : BpW B w tg bp o) (hg : ∀ g n, BodyAt B w tg g n → BodyAt B w' tg' g n) : BpW B w' tg' bp o := by
  cases o with
  | none => exact h
  | some n =>
    obtain ⟨g, h1, h2⟩ := h
    exact ⟨g, h1, hg g n h2⟩
theorem BodyAt.kp {B : Nat} {w w' : World} {tg : Nat → Nat} {g : Nat} {n : NodeM} (h : BodyAt B w tg g n) (hk : Kp w w') : BodyAt B w' tg g n :=
  h.keep (fun cs hc => hk g _ hc rfl) (fun v xs hr => hk.own hr (by decide)) (fun v xs hr hq => ⟨hk.own hr (by decide), hq⟩)
theorem CmW.keep {B : Nat} {w w' : World} {c mb : Nat} {gv : Value} {S : Gh} {σ : Cm} (h : CmW B w c mb gv S σ) (hk : Kp w w') : CmW B w' c mb gv S σ := by
  obtain ⟨cs, h1, h2⟩ := h.blk
  refine ⟨h.base, ⟨cs, hk c _ h1 rfl, h2⟩, fun i hi l hl => hk.own (h.levs i hi l hl) (by decide), fun i hi => hk.own (h.prs i hi) (by decide), h.tags, fun id hid => ?_, ?_, h.mbB⟩
  · obtain ⟨bp, g1, g2, g3⟩ := h.nodes id hid
    exact ⟨bp, hk _ _ g1 rfl, g2.keep (fun g n hb => hb.kp hk), g3⟩
  · obtain ⟨es, ck, g1, g2⟩ := h.map
    exact ⟨es, ck, hk _ _ g1 rfl, g2⟩
theorem CmW.below {B : Nat} {w w' : World} {c mb : Nat} {gv : Value} {S : Gh} {σ : Cm} (h : CmW B w c mb gv S σ) (hb : Below w.heap.size w w') : CmW B w' c mb gv S σ := h.keep (Kp.of hb)
theorem CmW.asked {B : Nat} {w : World} {c mb : Nat} {gv : Value} {S : Gh} {σ : Cm} (h : CmW B w c mb gv S σ) (id : Bs) : CmW B w c mb gv S (askedM σ id) := ⟨h.base, h.blk, h.levs, h.prs, h.tags, h.nodes, h.map, h.mbB⟩
theorem CmW.le {B : Nat} {w : World} {c mb : Nat} {gv : Value} {S : Gh} {σ : Cm} (h : CmW B w c mb gv S σ) : B ≤ w.heap.size := by
  obtain ⟨cs, h1, -⟩ := h.blk
  have := lt_of_heap h1
  have := h.base
  omega
theorem strB_inj' {a b : Bs} (h : strB a = strB b) : a = b := by
  have h2 := congrArg ByteArray.toList h
  rwa [toL, toL] at h2
/-- What plainly holds of what was met. -/
structure Okm (σ : Cm) : Prop where
  self : ∀ id ∈ σ.met, (σ.nd id).link.2.1 = id
  lev : ∀ i l, ∀ id ∈ σ.lev i l, id ∈ σ.met ∧ (σ.nd id).level = l
  lvl : ∀ id ∈ σ.met, 0 ≤ (σ.nd id).level ∧ (σ.nd id).level ≤ 20
  bod : ∀ id ∈ σ.met, ∀ n, (σ.nd id).body = some n → RightM n ∧ n.1 = (σ.nd id).level ∧ linkM id n = (σ.nd id).link
  nodup : σ.met.Nodup
theorem CmW.apart {B : Nat} {w : World} {c mb : Nat} {gv : Value} {S : Gh} {σ : Cm} (h : CmW B w c mb gv S σ) (ho : Okm σ) {x y : Bs} (hx : x ∈ σ.met) (hy : y ∈ σ.met) (he : S.ad x = S.ad y) : x = y := by
  obtain ⟨bx, h1, -⟩ := h.nodes x hx
  obtain ⟨b2, h2, -⟩ := h.nodes y hy
  rw [he, h2] at h1
  injection h1 with h1
  injection h1 with h1
  have h3 : strB (σ.nd y).link.2.1 = strB (σ.nd x).link.2.1 := by
    have := congrArg (fun a : Array Value => a[1]?) h1
    simp only [ndC, List.getElem?_toArray, List.getElem?_cons_succ, List.getElem?_cons_zero, Option.some.injEq] at this
    injection this
  have h4 := strB_inj' h3
  rw [ho.self x hx, ho.self y hy] at h4
  exact h4.symm
/-- The get that the comparing asks: it answers what fd says, and notes what is asked. -/
abbrev dts : List TypeId := [60, 110, 111, 48]
structure GetD (g : Nat) (caps : Array Value) (fd : Bs → Option Bs) (B : Nat) (I : World → List Bs → Prop) : Prop where
  eg : ∀ args w, (callFunc g args).run Try.prog w = .ok (.enter g args) w
  le : ∀ W a, I W a → B ≤ W.heap.size
  mv : ∀ {W W' : World} {a : List Bs}, I W a → Mv B dts none W W' → I W' a
  call : ∀ W a id, I W a → a.length ≤ 4294967296 → Calls Try.prog g (#[.string (strB id)] ++ caps) W fun e w' => e = .returned (foundV (fd id)) ∧ I w' (a ++ [id]) ∧ Below B W w' ∧ Kp W w'
  short : ∀ id b, fd id = some b → b.length ≤ 140737488355328
theorem GetD.below {g : Nat} {caps : Array Value} {fd : Bs → Option Bs} {B : Nat} {I : World → List Bs → Prop} (h : GetD g caps fd B I) {W W' : World} {a : List Bs} (hI : I W a) (hb : Below W.heap.size W W') : I W' a :=
  h.mv hI (Mv.of hb (h.le W a hI))
theorem Try.zPtr : (Try.prog.info? 111).map (fun i => (i.zero, i.size, i.bytes)) = some (some (.pointer none), 1, 8) := by kernel_rfl
theorem app_ptr (w : World) (B : Nat) (v : Value) (xs : List Nat) (p : Nat) (h : Rw B w 111 1 ptC v xs) (hB : B ≤ w.heap.size) (hn : xs.length ≤ 4294967296) :
    ∃ v' w', (Builtin.append_ #[54, 54] 54 #[v, .slice (some ⟨w.heap.size, 0, none⟩) 1 1]).run Try.prog (w.alloc (.cells #[.pointer (some ⟨p, 0, none⟩)] 111)) = .ok v' w' ∧
      Rw B w' 111 1 ptC v' (xs ++ [p]) ∧ (w.alloc (.cells #[.pointer (some ⟨p, 0, none⟩)] 111)).grownBy w' v.ownBlock ∧ (v'.ownBlock = v.ownBlock ∨ v'.ownBlock = some (w.heap.size + 1)) := by
  obtain ⟨i0, hi, hz0, hz1, hz2⟩ := info_parts Try.zPtr
  have hx := heap_last w (.cells #[.pointer (some ⟨p, 0, none⟩)] 111) _ rfl
  obtain ⟨v', w', h1, h2, h3, -, h4⟩ := run_append_own_at (P := Try.prog) (w.alloc (.cells #[.pointer (some ⟨p, 0, none⟩)] 111)) B 54 54 111 i0 (.pointer none) 1 8 Try.underlying54 hi hz0 hz1 hz2 rfl (by decide) v xs.length (xs.flatMap ptC) (h.alloc _) ⟨w.heap.size, 0, none⟩ 1 1 (ptC p) rfl (fun j u hu => by
      rw [Addr.add_lit, Nat.zero_add, cell_of_row _ _ _ _ _ _ hx, List.getElem?_toArray]; exact hu) (by simp [Value.oneCell']) (by unfold maxLen; omega) (by omega) (by simp; omega)
  refine ⟨v', w', h1, ?_, h3, by simpa using h4⟩
  unfold Rw
  rw [List.length_append, List.flatMap_append]
  simpa using h2
end Go.Proofs.Ytldfjpgcemfpjaa

/-
  What a comparing is behind a step: a node more, one hung behind others, one read, pairs told. No condition.
-/
namespace Go.Proofs.Ytldfjpgcemfpjaa
open Go.RowKit

theorem metK_str (ad : Bs → Nat) (l : List Bs) : ∀ p ∈ metK ad l, Mp.KStr p.1 := by
  intro p hp
  obtain ⟨o, _, rfl⟩ := List.mem_map.1 hp
  exact ⟨_, rfl⟩
theorem metK_no {ad : Bs → Nat} {l : List Bs} {id : Bs} (h : id ∉ l) : ∀ p ∈ metK ad l, p.1 ≠ .string (strB id) := by
  intro p hp he
  obtain ⟨o, ho, rfl⟩ := List.mem_map.1 hp
  injection he with he
  exact h (strB_inj' he ▸ ho)
theorem met_yes {w : World} {mb : Nat} {ad : Bs → Nat} {l : List Bs} {id : Bs} (h : Mp.MapW w mb (metK ad l)) (hid : id ∈ l) :
    (Instr.lookup 53 (.map (some mb)) (.string (strB id)) true).run Try.prog w = .ok (.tuple #[.pointer (some ⟨ad id, 0, none⟩), .bool true]) w := by
  have hm : ((.string (strB id), .pointer (some ⟨ad id, 0, none⟩)) : Value × Value) ∈ metK ad l := List.mem_map_of_mem (f := fun id : Bs => ((.string (strB id), .pointer (some ⟨ad id, 0, none⟩)) : Value × Value)) hid
  obtain ⟨x, y, e⟩ := List.append_of_mem hm
  have hp : (metK ad l).Perm ((.string (strB id), .pointer (some ⟨ad id, 0, none⟩)) :: (x ++ y)) := by rw [e]; exact List.perm_middle
  have := (h.perm hp).look (Mp.kind_str Try.underlying9) (fun p hp' => metK_str ad l p (hp.mem_iff.2 (List.mem_cons_of_mem _ hp'))) Try.underlying53 ⟨_, rfl⟩ true
  simpa using this
theorem met_no {w : World} {mb : Nat} {ad : Bs → Nat} {l : List Bs} {id : Bs} (h : Mp.MapW w mb (metK ad l)) (hid : id ∉ l) :
    (Instr.lookup 53 (.map (some mb)) (.string (strB id)) true).run Try.prog w = .ok (.tuple #[.pointer none, .bool false]) w := by
  have hz : (zeroValue 111).run Try.prog w = .ok (.pointer none) w := by kernel_rfl
  have := h.look_none (Mp.kind_str Try.underlying9) (metK_str ad l) Try.underlying53 ⟨_, rfl⟩ (metK_no hid) hz true
  simpa using this
/-- The map has one more. -/
theorem met_put {w : World} {mb : Nat} {ad : Bs → Nat} {l : List Bs} {id : Bs} (h : Mp.MapW w mb (metK ad l)) (hid : id ∉ l) (a : Nat) :
    ∃ w', (Instr.mapUpdate 53 (.map (some mb)) (.string (strB id)) (.pointer (some ⟨a, 0, none⟩))).run Try.prog w = .ok () w' ∧ Mp.MapW w' mb (metK (fun y => if y = id then a else ad y) (l ++ [id])) ∧ Mp.Chg (· = mb) w w' ∧ w'.heap.size = w.heap.size := by
  obtain ⟨w', h1, h2, h3, h4⟩ := h.put_new (Mp.kind_str Try.underlying9) (metK_str ad l) Try.underlying53 ⟨_, rfl⟩ (metK_no hid) (.pointer (some ⟨a, 0, none⟩))
  refine ⟨w', h1, h2.perm ?_, h3, h4⟩
  have e1 : metK (fun y => if y = id then a else ad y) (l ++ [id]) = metK ad l ++ [(.string (strB id), .pointer (some ⟨a, 0, none⟩))] := by
    unfold metK
    rw [List.map_append]
    have e2 : l.map (fun y => ((.string (strB y), .pointer (some ⟨if y = id then a else ad y, 0, none⟩)) : Value × Value)) = l.map (fun y => ((.string (strB y), .pointer (some ⟨ad y, 0, none⟩)) : Value × Value)) := List.map_congr_left (fun y hy => by rw [if_neg (by rintro rfl; exact hid hy)])
    rw [e2]
    simp only [List.map_cons, List.map_nil, if_true]
  rw [e1]
  exact (List.perm_append_singleton _ _).symm
section
variable {B : Nat} {w w' : World} {c mb : Nat} {gv : Value} {S : Gh} {σ : Cm}
theorem Mp.Chg.own {e : TypeId} {k n : Nat} {v : Value} {xs : List Value} {es : Array MapEntry} {ck : Nat} (hc : Mp.Chg (· = mb) w w') (hm : w.heap[mb]? = some (.map es ck)) (h : w.ownsRow B e k v n xs) : w'.ownsRow B e k v n xs := by
  refine own_same h (fun g hg => ?_)
  obtain ⟨c, fz, h1⟩ := Lib.ownsRow_kind h g hg
  refine hc.block g (lt_of_heap h1) ?_
  rintro rfl
  rw [hm] at h1
  cases h1
/-- The node of block a is known from now on. -/
theorem CmW.known (h : CmW B w c mb gv S σ) (ho : Okm σ) {k : Link} {level : Int} {body : Option NodeM} {a : Nat} {bp : Value} (hid : k.2.1 ∉ σ.met) (ha : w.heap[a]? = some (.cells (ndC ⟨k, level, (false, false), body⟩ bp) 110)) (hb : BpW B w S.tg bp body) (haB : B ≤ a)
    (hm : Mp.MapW w' mb (metK (fun y => if y = k.2.1 then a else S.ad y) (σ.met ++ [k.2.1]))) (hc : Mp.Chg (· = mb) w w') : CmW B w' c mb gv ⟨fun y => if y = k.2.1 then a else S.ad y, S.tg, S.rv⟩ (knowM σ k level body) := by
  unfold knowM
  rw [if_neg hid]
  obtain ⟨es, ck, hmb, -⟩ := h.map
  have cells : ∀ {g : Nat} {cs : Array Value} {t : TypeId} {fr : Nat × Nat}, w.heap[g]? = some (.cells cs t fr) → w'.heap[g]? = some (.cells cs t fr) := fun {g cs t fr} hg => hc.keep hg (by rintro rfl; rw [hmb] at hg; cases hg)
  have hbody : ∀ g n, BodyAt B w S.tg g n → BodyAt B w' S.tg g n := fun g n hb => hb.keep (fun cs hc' => cells hc') (fun v xs hr => hc.own hmb hr) (fun v xs hr hq => ⟨hc.own hmb hr, hq⟩)
  obtain ⟨cs, h1, h2⟩ := h.blk
  refine ⟨h.base, ⟨cs, cells h1, h2⟩, fun i hi l hl => ?_, fun i hi => hc.own hmb (h.prs i hi), h.tags, fun id hin => ?_, hm, h.mbB⟩
  · have e : ((σ.lev i l).map fun y => if y = k.2.1 then a else S.ad y) = (σ.lev i l).map S.ad := List.map_congr_left (fun y hy => if_neg (by rintro rfl; exact hid (ho.lev i l _ hy).1))
    show Rw B w' _ _ _ _ ((σ.lev i l).map fun y => if y = k.2.1 then a else S.ad y)
    rw [e]
    exact hc.own hmb (h.levs i hi l hl)
  · show ∃ bp, w'.heap[(if id = k.2.1 then a else S.ad id)]? = some (.cells (ndC (updN σ.nd k.2.1 ⟨k, level, (false, false), body⟩ id) bp) 110) ∧ BpW B w' S.tg bp (updN σ.nd k.2.1 ⟨k, level, (false, false), body⟩ id).body ∧ B ≤ (if id = k.2.1 then a else S.ad id)
    unfold updN
    by_cases he : id = k.2.1
    · simp only [if_pos he]
      exact ⟨bp, cells ha, hb.keep hbody, haB⟩
    · simp only [if_neg he]
      obtain ⟨b1, g1, g2, g3⟩ := h.nodes id (by
        rcases List.mem_append.1 hin with hq | hq
        · exact hq
        · exact absurd (List.mem_singleton.1 hq) he)
      exact ⟨b1, cells g1, g2.keep hbody, g3⟩
theorem Okm.known (ho : Okm σ) {k : Link} {level : Int} {body : Option NodeM} (h0 : 0 ≤ level) (h1 : level ≤ 20) (hb : ∀ n, body = some n → RightM n ∧ n.1 = level ∧ linkM k.2.1 n = k) : Okm (knowM σ k level body) := by
  unfold knowM
  by_cases hid : k.2.1 ∈ σ.met
  · rw [if_pos hid]; exact ho
  · rw [if_neg hid]
    have hn : ∀ id, id ∈ σ.met → updN σ.nd k.2.1 ⟨k, level, (false, false), body⟩ id = σ.nd id := fun id hi => if_neg (by rintro rfl; exact hid hi)
    have hs : updN σ.nd k.2.1 ⟨k, level, (false, false), body⟩ k.2.1 = ⟨k, level, (false, false), body⟩ := if_pos rfl
    have cases_ : ∀ {P : Bs → Prop}, (∀ id ∈ σ.met, P id) → P k.2.1 → ∀ id ∈ σ.met ++ [k.2.1], P id := fun {P} h1 h2 id hi => by
      rcases List.mem_append.1 hi with hq | hq
      · exact h1 id hq
      · rw [List.mem_singleton.1 hq]; exact h2
    refine ⟨cases_ (fun id hi => ?_) ?_, fun i l id hi => ?_, cases_ (fun id hi => ?_) ?_, cases_ (fun id hi n => ?_) (fun n => ?_), ?_⟩
    · simp only [hn id hi]; exact ho.self id hi
    · simp only [hs]
    · obtain ⟨g1, g2⟩ := ho.lev i l id hi
      exact ⟨List.mem_append_left _ g1, by simp only [hn id g1]; exact g2⟩
    · simp only [hn id hi]; exact ho.lvl id hi
    · simp only [hs]; exact ⟨h0, h1⟩
    · simp only [hn id hi]; exact ho.bod id hi n
    · simp only [hs]; exact hb n
    · exact List.nodup_append.2 ⟨ho.nodup, by simp, fun a ha b hb => by rw [List.mem_singleton.1 hb]; rintro rfl; exact hid ha⟩
/-- Another cell of a node, the rest as it was. -/
theorem CmW.noded (h : CmW B w c mb gv S σ) (ho : Okm σ) {id : Bs} (hid : id ∈ σ.met) {j : Nat} {u : Value} {n : Nd} {bp bp' : Value} (hbl : w.heap[S.ad id]? = some (.cells (ndC (σ.nd id) bp) 110)) (hset : (ndC (σ.nd id) bp).setIfInBounds j u = ndC n bp') (hbp : BpW B w S.tg bp' n.body) :
    CmW B (w.setCell ⟨S.ad id, j, none⟩ u) c mb gv S ⟨σ.met, updN σ.nd id n, σ.lev, σ.prs, σ.asked⟩ := by
  have other : ∀ {g : Nat} {cs : Array Value} {t : TypeId} {fr : Nat × Nat}, t ≠ 110 → w.heap[g]? = some (.cells cs t fr) → (w.setCell ⟨S.ad id, j, none⟩ u).heap[g]? = some (.cells cs t fr) := fun {g cs t fr} ht hg => (heap_setOther (ne_type hg hbl ht)).trans hg
  have own : ∀ {e : TypeId} {k n : Nat} {v : Value} {xs : List Value}, e ≠ 110 → w.ownsRow B e k v n xs → (w.setCell ⟨S.ad id, j, none⟩ u).ownsRow B e k v n xs := fun he hr => own_setCell hr hbl (Ne.symm he) _
  have hbody : ∀ g n, BodyAt B w S.tg g n → BodyAt B (w.setCell ⟨S.ad id, j, none⟩ u) S.tg g n := fun g n hb => hb.keep (fun cs hc' => other (by decide) hc') (fun v xs hr => own (by decide) hr) (fun v xs hr hq => ⟨own (by decide) hr, hq⟩)
  obtain ⟨cs, h1, h2⟩ := h.blk
  refine ⟨h.base, ⟨cs, other (by decide) h1, h2⟩, fun i hi l hl => own (by decide) (h.levs i hi l hl), fun i hi => own (by decide) (h.prs i hi), h.tags, fun x hx => ?_, ?_, h.mbB⟩
  · show ∃ bp, (w.setCell ⟨S.ad id, j, none⟩ u).heap[S.ad x]? = some (.cells (ndC (updN σ.nd id n x) bp) 110) ∧ BpW B (w.setCell ⟨S.ad id, j, none⟩ u) S.tg bp (updN σ.nd id n x).body ∧ B ≤ S.ad x
    unfold updN
    by_cases he : x = id
    · subst he
      simp only [if_true]
      exact ⟨bp', by rw [heap_setCell _ _ _ _ _ _ _ hbl, hset], hbp.keep hbody, (h.nodes x hid).choose_spec.2.2⟩
    · simp only [if_neg he]
      obtain ⟨b1, g1, g2, g3⟩ := h.nodes x hx
      exact ⟨b1, (heap_setOther (fun e => he (h.apart ho hx hid e))).trans g1, g2.keep hbody, g3⟩
  · exact h.map.same (heap_setOther (h.map.ne hbl).symm)
/-- Blocks that are there have their tags. -/
theorem CmW.tag_lt (h : CmW B w c mb gv S σ) {k q : Nat} (hk : k < 44) (hq : (S.rv k).ownBlock = some q) : q < w.heap.size := by
  obtain ⟨i, l, hi, hl, rfl⟩ : ∃ i l, i < 2 ∧ l < 22 ∧ k = 22 * i + l := ⟨k / 22, k % 22, by omega, by omega, by omega⟩
  by_cases he : l < 21
  · exact ((h.levs i hi l he).lt q hq).2
  · obtain rfl : l = 21 := by omega
    exact ((h.prs i hi).lt q hq).2
/-- A row k grew, and was laid where it was. -/
theorem CmW.grown (h : CmW B w c mb gv S σ) {k : Nat} (hk : k < 44) {v' : Value} {w1 : World} {lev' : Nat → Nat → List Bs} {prs' : Nat → List Pair} {e : TypeId} {kk n : Nat} {xs : List Value}
    (hown : w.ownsRow B e kk (S.rv k) n xs) (hgr : w.grownBy w1 (S.rv k).ownBlock) (hv : v'.ownBlock = (S.rv k).ownBlock ∨ ∃ q, v'.ownBlock = some q ∧ w.heap.size ≤ q)
    (he : e = 111 ∨ e = 48) (hrow : ∀ i l, i < 2 → l < 21 → k = 22 * i + l → Rw B w1 111 1 ptC v' ((lev' i l).map S.ad)) (hpair : ∀ i, i < 2 → k = 22 * i + 21 → Rw B w1 48 2 pairC v' (prs' i))
    (hlev : ∀ i l, i < 2 → l < 21 → k ≠ 22 * i + l → lev' i l = σ.lev i l) (hprs : ∀ i, i < 2 → k ≠ 22 * i + 21 → prs' i = σ.prs i) :
    CmW B (w1.setCell ⟨c, 2 + k, none⟩ v') c mb gv ⟨S.ad, fun q => if v'.ownBlock = some q then 10 + k else S.tg q, fun j => if j = k then v' else S.rv j⟩ ⟨σ.met, σ.nd, lev', prs', σ.asked⟩ := by
  have kind := fun q hq => Lib.ownsRow_kind hown q hq
  have cells : ∀ {g : Nat} {ob : Obj}, w.heap[g]? = some ob → (∀ cs fr, ob ≠ .cells cs e fr) → w1.heap[g]? = some ob := fun {g ob} hg hne => (hgr.block g (lt_of_heap hg) (fun hq => by
    obtain ⟨cs, fz, h1⟩ := kind g hq.symm
    rw [hg] at h1
    injection h1 with h1
    exact hne _ _ h1)).trans hg
  obtain ⟨cs, h1, h2, h3, h4, h5⟩ := h.blk
  have hc1 : w1.heap[c]? = some (.cells cs 60) := cells h1 (by rcases he with rfl | rfl <;> (intro _ _ hq; injection hq with _ hq; exact absurd hq (by decide)))
  have other : ∀ {g : Nat} {cs : Array Value} {t : TypeId} {fr : Nat × Nat}, t ≠ 60 → w1.heap[g]? = some (.cells cs t fr) → (w1.setCell ⟨c, 2 + k, none⟩ v').heap[g]? = some (.cells cs t fr) := fun {g cs t fr} ht hg => (heap_setOther (ne_type hg hc1 ht)).trans hg
  have own1 : ∀ {e : TypeId} {k' n : Nat} {v : Value} {xs : List Value}, e ≠ 60 → w1.ownsRow B e k' v n xs → (w1.setCell ⟨c, 2 + k, none⟩ v').ownsRow B e k' v n xs := fun he hr => own_setCell hr hc1 (Ne.symm he) _
  have tgs : ∀ q, q < w.heap.size → (if v'.ownBlock = some q then 10 + k else S.tg q) = S.tg q := fun q hq => by
    by_cases hv' : v'.ownBlock = some q
    · rw [if_pos hv']
      rcases hv with hv | ⟨q', hv, hl⟩
      · exact (h.tags k hk q (hv ▸ hv')).symm
      · rw [hv] at hv'
        injection hv' with hv'
        omega
    · rw [if_neg hv']
  have own : ∀ {e' : TypeId} {k' n' : Nat} {v : Value} {ys : List Value} {T : Nat}, w.ownsRow B e' k' v n' ys → (∀ q, v.ownBlock = some q → S.tg q = T) → T ≠ 10 + k → w1.ownsRow B e' k' v n' ys := fun {e' k' n' v ys T} hr ht hT => own_same hr (fun g hg => hgr.block g (hr.lt g hg).2 (fun hq => hT (by rw [← ht g hg, h.tags k hk g hq.symm])))
  have link : ∀ {k' n' : Nat} {v : Value} {ys : List Value}, w.ownsRow B 81 k' v n' ys → w1.ownsRow B 81 k' v n' ys := fun {k' n' v ys} hr => own_same hr (fun g hg => by
    obtain ⟨c', fz, h1⟩ := Lib.ownsRow_kind hr g hg
    rw [cells h1 (by rcases he with rfl | rfl <;> (intro _ _ hq; injection hq with _ hq; exact absurd hq (by decide))), h1])
  have hbody : ∀ g n, BodyAt B w S.tg g n → BodyAt B (w1.setCell ⟨c, 2 + k, none⟩ v') (fun q => if v'.ownBlock = some q then 10 + k else S.tg q) g n := fun g n hb =>
    hb.keep (fun cs hc' => other (by decide) (cells hc' (by rcases he with rfl | rfl <;> (intro _ _ hq; injection hq with _ hq; exact absurd hq (by decide))))) (fun v xs hr => own1 (by decide) (link hr))
      (fun v xs hr hq => ⟨own1 (by decide) (own hr hq (by omega)), fun q hq' => by
        show (if v'.ownBlock = some q then 10 + k else S.tg q) = 4
        rw [tgs q (hr.lt q hq').2]
        exact hq q hq'⟩)
  refine ⟨h.base, ⟨cs.setIfInBounds (2 + k) v', heap_setCell _ _ _ _ _ _ _ hc1, by simpa using h2, ?_, ?_, fun j hj => ?_⟩, fun i hi l hl => ?_, fun i hi => ?_, fun j hj q hq => ?_, fun id hid => ?_, ?_, h.mbB⟩
  · rw [Array.getElem?_setIfInBounds, if_neg (by omega)]; exact h3
  · rw [Array.getElem?_setIfInBounds, if_neg (by omega)]; exact h4
  · rw [Array.getElem?_setIfInBounds]
    by_cases hjk : j = k
    · rw [if_pos (by omega), if_pos (by omega)]
      simp only [if_pos hjk]
    · rw [if_neg (by omega)]
      simp only [if_neg hjk]
      exact h5 j hj
  · by_cases hjk : k = 22 * i + l
    · simp only [if_pos hjk.symm]
      exact own1 (by decide) (hrow i l hi hl hjk)
    · simp only [if_neg (Ne.symm hjk), hlev i l hi hl hjk]
      exact own1 (by decide) (own (h.levs i hi l hl) (fun q hq => h.tags _ (by omega) q hq) (by omega))
  · by_cases hjk : k = 22 * i + 21
    · simp only [if_pos hjk.symm]
      exact own1 (by decide) (hpair i hi hjk)
    · simp only [if_neg (Ne.symm hjk), hprs i hi hjk]
      exact own1 (by decide) (own (h.prs i hi) (fun q hq => h.tags _ (by omega) q hq) (by omega))
  · by_cases hjk : j = k
    · simp only [if_pos hjk] at hq
      simp only [if_pos hq, hjk]
    · simp only [if_neg hjk] at hq
      show (if v'.ownBlock = some q then 10 + k else S.tg q) = 10 + j
      rw [tgs q (h.tag_lt hj hq)]
      exact h.tags j hj q hq
  · obtain ⟨b1, g1, g2, g3⟩ := h.nodes id hid
    exact ⟨b1, other (by decide) (cells g1 (by rcases he with rfl | rfl <;> (intro _ _ hq; injection hq with _ hq; exact absurd hq (by decide)))), g2.keep hbody, g3⟩
  · obtain ⟨es, ck, g1, g2⟩ := h.map
    have g3 : w1.heap[mb]? = some (.map es ck) := cells g1 (by intro _ _ hq; cases hq)
    exact ⟨es, ck, (heap_setOther (by rintro rfl; rw [hc1] at g3; cases g3)).trans g3, g2⟩
end
end Go.Proofs.Ytldfjpgcemfpjaa

/-
  Bytes read as a node; whether both have it. Condition: not too many bytes.
-/
namespace Go.Proofs.Ytldfjpgcemfpjaa
open Go.RowKit

theorem eq_two (o1 o2 : Bool) (W : World) : (Op.equalIn 10000 108 (.agg #[.bool o1, .bool o2]) (.agg #[.bool true, .bool true])).run Try.prog W = .ok (o1 && o2) W := by
  cases o1 <;> cases o2 <;> kernel_rfl
set_option maxRecDepth 20000 in
theorem isShared_any (w : World) (a : Nat) (n : Nd) (bp : Value) (h : w.heap[a]? = some (.cells (ndC n bp) 110)) :
    Calls Try.prog 48 #[.pointer (some ⟨a, 0, none⟩)] w fun e w' => e = .returned (.bool (isSh n)) ∧ w' = w := by
  unfold ndC at h
  have c4 := cell_of_row w a 4 _ _ _ h
  have c5 := cell_of_row w a 5 _ _ _ h
  simp only [List.getElem?_toArray, List.getElem?_cons_zero, List.getElem?_cons_succ] at c4 c5
  unfold isSh
  obtain ⟨k, l, ⟨o1, o2⟩, b⟩ := n
  simp only at c4 c5 ⊢
  have he := eq_two o1 o2
  clear h
  go_enter Try.func48, Try.ntmps48
  go_wp2
  go_ret
  exact ⟨rfl, rfl⟩
set_option maxRecDepth 20000 in
set_option maxHeartbeats 1600000 in
theorem takeBody_any (w : World) (b : Bs) (hb : b.length ≤ 140737488355328) :
    Calls Try.prog 58 #[.string (strB b)] w fun e w' => (match nodeM b with
      | some n => ∃ g vk vp, e = .returned (.tuple #[.pointer (some ⟨g, 0, none⟩), .bool true]) ∧ w.heap.size ≤ g ∧ w'.heap[g]? = some (.cells #[.int .i64 n.1, vk, vp] 107) ∧ Rw w.heap.size w' 81 3 linkC vk n.2.2 ∧ Rw w.heap.size w' 48 2 pairC vp n.2.1
      | none => ∃ p, e = .returned (.tuple #[p, .bool false])) ∧ Below w.heap.size w w' := by
  have htl := takeLeaf_any w b hb
  unfold LeafSaid at htl
  cases hc : takenLeaf b with
  | some f =>
    rw [nodeM_leaf hc]
    rw [hc] at htl
    simp only at htl ⊢
    clear hc
    go_enter Try.func58, Try.ntmps58
    go_wp2_with fail
    refine htl.mono ?_
    rintro e w1 ⟨⟨v, rfl, hov⟩, hb1⟩
    obtain ⟨va, vm, vc, rfl⟩ := row_form hov
    have HO := hide (And.intro hov hb1)
    clear htl hov hb1
    go_wp2
    go_ret2
    exact ⟨⟨_, _, _, rfl, HO.out.2.size, heap_last w1 _ _ rfl, World.ownsRow_nil _ _ _ _, HO.out.1.alloc _⟩, HO.out.2.alloc HO.out.2.size _⟩
  | none =>
    rw [hc] at htl
    simp only at htl
    cases ht : takenBranch b with
    | none =>
      rw [nodeM_none hc ht]
      simp only
      clear hc
      go_enter Try.func58, Try.ntmps58
      go_wp2_with fail
      refine htl.mono ?_
      rintro e w1 ⟨rfl, hb1⟩
      have htf := takeBranch_any w1 b hb
      unfold branchSaid at htf
      rw [ht] at htf
      simp only at htf
      have H1 := hide hb1
      clear htl hb1
      go_wp2_with fail
      refine htf.mono ?_
      rintro e w2 ⟨rfl, hb2⟩
      have H2 := hide (H1.out.trans (hb2.mono H1.out.size))
      clear htf hb2
      go_wp2
      go_ret2
      exact ⟨⟨_, rfl⟩, (H2.out.alloc H2.out.size _).alloc (by simp; have := H2.out.size; omega) _⟩
    | some f =>
      rw [nodeM_branch hc ht]
      simp only
      clear hc
      go_enter Try.func58, Try.ntmps58
      go_wp2_with fail
      refine htl.mono ?_
      rintro e w1 ⟨rfl, hb1⟩
      have htf := takeBranch_any w1 b hb
      unfold branchSaid at htf
      rw [ht] at htf
      simp only at htf
      have H1 := hide hb1
      clear htl hb1
      go_wp2_with fail
      refine htf.mono ?_
      rintro e w2 ⟨⟨v, rfl, ho⟩, hb2⟩
      obtain ⟨va, vm, vc, rfl⟩ := row_form ho
      have H2 := hide (And.intro (own_down ho H1.out.size) (H1.out.trans (hb2.mono H1.out.size)))
      clear htf hb2 ho
      go_wp2
      go_ret2
      have hs := H2.out.2.size
      exact ⟨⟨_, _, _, rfl, by omega, heap_last _ _ _ (by simp), (H2.out.1.alloc _).alloc _, World.ownsRow_nil _ _ _ _⟩, (H2.out.2.alloc hs _).alloc (by simp; omega) _⟩
end Go.Proofs.Ytldfjpgcemfpjaa

/-
  What a link to a node must say. Condition: the node lies there, and is right.
-/
namespace Go.Proofs.Ytldfjpgcemfpjaa
open Go.RowKit

theorem Try.infoLinkD : (Try.prog.info? 81).map (·.size) = some 3 := by kernel_rfl
/-- The last key behind so many kids. -/
def lastK (ps : List Pair) (ks : List Link) (k : Nat) : Bs := if k = 0 then lastP ps else lastL (ks.take k)
theorem lastK_step (ps : List Pair) (ks : List Link) (k : Nat) (h : k < ks.length) : lastK ps ks (k + 1) = ks[k].1 := by
  unfold lastK
  rw [if_neg (by omega), List.take_succ_eq_append_getElem h]
  unfold lastL
  rw [List.getLast?_append]
  simp
theorem lastK_all (lv : Int) (ps : List Pair) (ks : List Link) : lastK ps ks ks.length = lastM (lv, ps, ks) := by
  unfold lastK lastM
  rw [List.take_length]
set_option maxRecDepth 40000 in
set_option maxHeartbeats 1600000 in
theorem blink_any (w : World) (g : Nat) (id : Bs) (n : NodeM) (vk vp : Value) (hg : w.heap[g]? = some (.cells #[.int .i64 n.1, vk, vp] 107)) (hk : Ls w.heap.size w 3 linkC vk n.2.2) (hp : Ls w.heap.size w 2 pairC vp n.2.1) (hr : RightM n) :
    Calls Try.prog 47 #[.pointer (some ⟨g, 0, none⟩), .string (strB id)] w fun e w' => e = .returned (.agg #[.string (strB (linkM id n).1), .string (strB (linkM id n).2.1), .int .i64 (linkM id n).2.2]) ∧ Below w.heap.size w w' := by
  obtain ⟨l1, l2, l3, l4⟩ := hr.links
  clear hr
  obtain ⟨lv, ps, ks⟩ := n
  simp only at hk hp hg l1 l2 l3 l4 ⊢
  unfold linkM
  rw [← lastK_all]
  unfold countM
  simp only
  obtain ⟨ap, cp, rfl, p1, p2, p4⟩ := hp
  obtain ⟨ak, ck, rfl, k1, k2, k4⟩ := hk
  have k0 := cell_of_row w g 0 _ _ _ hg
  have kk1 := cell_of_row w g 1 _ _ _ hg
  have kk2 := cell_of_row w g 2 _ _ _ hg
  simp only [List.getElem?_toArray, List.getElem?_cons_zero, List.getElem?_cons_succ] at k0 kk1 kk2
  have hb0 : Below w.heap.size w (w.alloc (.cells #[.string ⟨#[]⟩, .string ⟨#[]⟩, .int .i64 0] 81)) := (Below.refl _ _).alloc (Nat.le_refl _) _
  have hA0 := heap_last w (.cells #[.string ⟨#[]⟩, .string ⟨#[]⟩, .int .i64 0] 81) _ rfl
  have hg0 := (hb0.block _ (lt_of_heap hg)).trans hg
  have hs0 : (w.alloc (.cells #[.string ⟨#[]⟩, .string ⟨#[]⟩, .int .i64 0] 81)).heap.size = w.heap.size + 1 := by simp
  generalize hw0 : w.alloc (.cells #[.string ⟨#[]⟩, .string ⟨#[]⟩, .int .i64 0] 81) = w0 at *
  have a2 := cell_of_row w0 g 2 _ _ _ hg0
  simp only [List.getElem?_toArray, List.getElem?_cons_zero, List.getElem?_cons_succ] at a2
  have hb1 := hb0.alloc hb0.size (.cells #[.string ⟨#[]⟩, .string (strB id), .int .i64 ps.length] 81)
  have hg1 := (heap_past w0 (.cells #[.string ⟨#[]⟩, .string (strB id), .int .i64 ps.length] 81) _ (lt_of_heap hg0)).trans hg0
  have hA1 := (heap_past w0 (.cells #[.string ⟨#[]⟩, .string (strB id), .int .i64 ps.length] 81) _ (lt_of_heap hA0)).trans hA0
  have hL1 := heap_last w0 (.cells #[.string ⟨#[]⟩, .string (strB id), .int .i64 ps.length] 81) _ hs0.symm
  generalize hw1 : w0.alloc (.cells #[.string ⟨#[]⟩, .string (strB id), .int .i64 ps.length] 81) = w1 at *
  have b1 := cell_of_row w1 g 1 _ _ _ hg1
  have b2 := cell_of_row w1 g 2 _ _ _ hg1
  have b3 := cell_of_row w1 (w.heap.size + 1) 0 _ _ _ hL1
  simp only [List.getElem?_toArray, List.getElem?_cons_zero, List.getElem?_cons_succ] at b1 b2 b3
  have f0 := frozen0 (j := 0) hL1
  unfold maxLen at k2 p2
  by_cases hps : ps = []
  · have hlp : ps.length ≤ 0 := by rw [hps]; simp
    have hgW := hg1
    have HW := hide (And.intro hA1 (And.intro hL1 hb1))
    have hps0 : lastP ps = [] := by rw [hps]; rfl
    clear hg hg0 hg1 hA0 hA1 hL1 hb0 hb1 p4 hps
    go_enter Try.func47, Try.ntmps47
    go_wp2_with fail
    try rw [hw0]
    go_wp2_with fail
    try rw [hs0]
    try rw [hw1]
    clear hgW
    go_wp2_with fail
    go_loopw [41] (fun t wr => ∃ k : Nat, k ≤ ks.length ∧ t = .int .i64 k ∧ wr.heap[w.heap.size]? = some (.cells #[.string ⟨#[]⟩, .string ⟨#[]⟩, .int .i64 0] 81) ∧ wr.heap[w.heap.size + 1]? = some (.cells #[.string (strB (lastK ps ks k)), .string (strB id), .int .i64 ((ps.length : Int) + manyL (ks.take k))] 81) ∧ Below w.heap.size w wr)
      (fun t _ => ks.length - (intOf t).toNat)
    case atStart => exact ⟨0, by omega, rfl, HW.out.1, by rw [show lastK ps ks 0 = lastP ps from rfl, hps0]; rw [show strB ([] : Bs) = ⟨#[]⟩ from rfl]; simpa [manyL] using HW.out.2.1, HW.out.2.2⟩
    case round =>
      obtain ⟨k, hkk, rfl, hA, hL, hb⟩ := hrel
      have HBr := hide hb
      by_cases hlt : k < ks.length
      · obtain ⟨b, off, rfl, hbB, hc⟩ := k4 (by rintro rfl; simp at hlt)
        have d0 := (hb.cell (p := ⟨b, off + k * 3 + 0, none⟩) hbB).trans (hc k hlt 0 _ rfl)
        have d1 := (hb.cell (p := ⟨b, off + k * 3 + 1, none⟩) hbB).trans (hc k hlt 1 _ rfl)
        have d2 := (hb.cell (p := ⟨b, off + k * 3 + 2, none⟩) hbB).trans (hc k hlt 2 _ rfl)
        simp only [Nat.add_zero] at d0
        have hst := manyL_step ks k hlt
        have hw1 := manyL_within l2 l3 k
        have hw2 := manyL_within l2 l3 (k + 1)
        rw [hst] at hw2
        have hls := lastK_step ps ks k hlt
        have hsz : w.heap.size + 1 < wr.heap.size := lt_of_heap hL
        have n0 := cell_of_row _ (w.heap.size + 1) 0 _ _ _ hL
        simp only [List.getElem?_toArray, List.getElem?_cons_zero] at n0
        have f0 := frozen0 (j := 0) hL
        have hne0 : w.heap.size ≠ w.heap.size + 1 := by omega
        have hA1 := (heap_setOther (w := wr) (j := 0) (u := .string (strB ks[k].1)) hne0).trans hA
        have hL1 := heap_set3a (u0 := .string (strB ks[k].1)) hL
        have hB1 := hb.setCell (p := ⟨w.heap.size + 1, 0, none⟩) (by simp) (.string (strB ks[k].1))
        have hz1 : (wr.setCell ⟨w.heap.size + 1, 0, none⟩ (.string (strB ks[k].1))).heap.size = wr.heap.size := by simp [World.setCell]
        generalize ks[k] = x at *
        have hA2 := (heap_past (wr.setCell ⟨w.heap.size + 1, 0, none⟩ (.string (strB x.1))) (.cells #[.string (strB x.1), .string (strB x.2.1), .int .i64 x.2.2] 81) _ (lt_of_heap hA1)).trans hA1
        have hL2 := (heap_past (wr.setCell ⟨w.heap.size + 1, 0, none⟩ (.string (strB x.1))) (.cells #[.string (strB x.1), .string (strB x.2.1), .int .i64 x.2.2] 81) _ (lt_of_heap hL1)).trans hL1
        have hK2 := heap_last (wr.setCell ⟨w.heap.size + 1, 0, none⟩ (.string (strB x.1))) (.cells #[.string (strB x.1), .string (strB x.2.1), .int .i64 x.2.2] 81) _ hz1.symm
        have hB2 := hB1.alloc hB1.size (.cells #[.string (strB x.1), .string (strB x.2.1), .int .i64 x.2.2] 81)
        have m2 := cell_of_row _ (w.heap.size + 1) 2 _ _ _ hL2
        have m3 := cell_of_row _ wr.heap.size 2 _ _ _ hK2
        simp only [List.getElem?_toArray, List.getElem?_cons_zero, List.getElem?_cons_succ] at m2 m3
        have f2 := frozen0 (j := 2) hL2
        have HS := hide (And.intro hst (And.intro hls (And.intro hA1 (And.intro hL1 hB1))))
        generalize manyL (ks.take k) = z at *
        clear hst hb hc hA hL hls hA1 hL1 hA2 hL2 hK2 hB1 hB2 hz1
        go_wp2
        go_roundw
        case rel =>
          have q1 := (heap_setOther (j := 2) (u := .int .i64 ((ps.length : Int) + z + x.2.2)) hne0).trans HS.out.2.2.1
          have q2 := Mp.heap_set HS.out.2.2.2.1 2 (.int .i64 ((ps.length : Int) + z + x.2.2))
          refine ⟨k + 1, by omega, by go_num, (heap_past _ _ _ (lt_of_heap q1)).trans q1, (heap_past _ _ _ (lt_of_heap q2)).trans ?_, ?_⟩
          · rw [q2, HS.out.1, HS.out.2.1, ← Int.add_assoc]; rfl
          · exact (HS.out.2.2.2.2.setCell (p := ⟨w.heap.size + 1, 2, none⟩) (by simp) _).alloc (by have := HBr.out.size; simp [World.setCell]; omega) _
        case measure => simp [intOf]; omega
      · obtain rfl : k = ks.length := by omega
        rw [List.take_length] at hL
        have m0 := cell_of_row _ (w.heap.size + 1) 0 _ _ _ hL
        have m1 := cell_of_row _ (w.heap.size + 1) 1 _ _ _ hL
        have m2 := cell_of_row _ (w.heap.size + 1) 2 _ _ _ hL
        have n0 := cell_of_row _ w.heap.size 0 _ _ _ hA
        have n1 := cell_of_row _ w.heap.size 1 _ _ _ hA
        have n2 := cell_of_row _ w.heap.size 2 _ _ _ hA
        simp only [List.getElem?_toArray, List.getElem?_cons_zero, List.getElem?_cons_succ] at m0 m1 m2 n0 n1 n2
        have f0 := frozen0 (j := 0) hA
        have f1 := frozen0 (j := 1) hA
        have f2 := frozen0 (j := 2) hA
        have HA := hide hA
        clear hb k4 hA hL
        go_wp2
        refine bodyPost_ret (results_cell_row rfl _ _ _ _ _ _ _ rfl (heap_set3all HA.out) Try.underlying81 rfl Try.infoLinkD) rfl ⟨rfl, ?_⟩
        exact (((HBr.out.setCell (p := ⟨w.heap.size, 0, none⟩) (Nat.le_refl _) _).setCell (p := ⟨w.heap.size, 1, none⟩) (Nat.le_refl _) _).setCell (p := ⟨w.heap.size, 2, none⟩) (Nat.le_refl _) _)
  · have hlp : 1 ≤ ps.length := by
      rcases ps with - | ⟨x, r⟩
      · exact absurd rfl hps
      · simp
    obtain ⟨pb, po, rfl, hpB, hpc⟩ := p4 hps
    have hwr : IntKind.i64.wrap ((ps.length : Int) - 1) = ((ps.length - 1 : Nat) : Int) := by rw [IntKind.wrap_i64]; omega
    have hlt0 : ps.length - 1 < ps.length := by omega
    have e0 := (hb1.cell (p := ⟨pb, po + (ps.length - 1) * 2 + 0, none⟩) hpB).trans (hpc (ps.length - 1) (by omega) 0 _ rfl)
    have hlg := lastP_get hlp
    rw [← hlg] at e0
    simp only [Nat.add_zero] at e0
    have hgne : g ≠ w.heap.size + 1 := by have := lt_of_heap hg; omega
    have hgW : (w1.setCell ⟨w.heap.size + 1, 0, none⟩ (.string (strB (lastP ps)))).heap[g]? = _ := (heap_setOther hgne).trans hg1
    have HW : Hid ((w1.setCell ⟨w.heap.size + 1, 0, none⟩ (.string (strB (lastP ps)))).heap[w.heap.size]? = _ ∧ (w1.setCell ⟨w.heap.size + 1, 0, none⟩ (.string (strB (lastP ps)))).heap[w.heap.size + 1]? = _ ∧ Below w.heap.size w (w1.setCell ⟨w.heap.size + 1, 0, none⟩ (.string (strB (lastP ps))))) := And.intro ((heap_setOther (by omega)).trans hA1) (And.intro (heap_set3a hL1) (hb1.setCell (p := ⟨w.heap.size + 1, 0, none⟩) (by simp) _))
    have g1 := cell_of_row _ g 1 _ _ _ hgW
    simp only [List.getElem?_toArray, List.getElem?_cons_zero, List.getElem?_cons_succ] at g1
    have y2 := cell_of_row _ g 2 _ _ _ hgW
    simp only [List.getElem?_toArray, List.getElem?_cons_zero, List.getElem?_cons_succ] at y2
    have ye : (w1.setCell ⟨w.heap.size + 1, 0, none⟩ (.string (strB (lastP ps)))).cell? ⟨pb, po + (ps.length - 1) * 2, none⟩ = some (.string (strB (lastP ps))) := (World.cell?_setCell_other _ _ _ _ (by intro e; injection e with e; omega)).trans e0
    clear hg hg0 hg1 hA0 hA1 hL1 hb0 hb1 p4 hpc hlg
    go_enter Try.func47, Try.ntmps47
    go_wp2_with fail
    try rw [hw0]
    go_wp2_with fail
    try rw [hs0]
    try rw [hw1]
    go_wp2_with fail
    refine wp_region_held_drew (S := fun W => W.cell? ⟨g, 2, none⟩ = some (.slice (some ⟨pb, po, none⟩) ps.length cp) ∧ W.cell? ⟨pb, po + (ps.length - 1) * 2, none⟩ = some (.string (strB (lastP ps)))) (by kernel_rfl) (⟨b2, e0⟩) (fun hHeld => ?_)
    refine takeK 0 hHeld ?_
    refine takeK 1 hHeld ?_
    refine takeK 2 hHeld ?_
    refine takeK 3 hHeld ?_
    refine takeK 4 hHeld ?_
    refine takeK 5 hHeld ?_
    refine takeK 6 hHeld ?_
    refine takeK 7 hHeld ?_
    refine takeK 8 hHeld ?_
    refine takeK 9 hHeld ?_
    refine takeK 10 hHeld ?_
    refine takeK 11 hHeld ?_
    refine takeK 12 hHeld ?_
    refine takeK 13 hHeld ?_
    refine onlyH (i := 14) rfl (by kernel_rfl) rfl (fun K hK => ?_)
    go_simp
    refine hK.out _ _ (⟨y2, ye⟩) (fun hHeld => ?_)
    clear hK K
    try simp only [Act.put, List.setIfInBounds_toArray, List.set_cons_zero, List.set_cons_succ]
    refine wpAnyH_done (by kernel_rfl) ?_ _
    clear hHeld
    clear hgW
    go_wp2_with fail
    go_loopw [41] (fun t wr => ∃ k : Nat, k ≤ ks.length ∧ t = .int .i64 k ∧ wr.heap[w.heap.size]? = some (.cells #[.string ⟨#[]⟩, .string ⟨#[]⟩, .int .i64 0] 81) ∧ wr.heap[w.heap.size + 1]? = some (.cells #[.string (strB (lastK ps ks k)), .string (strB id), .int .i64 ((ps.length : Int) + manyL (ks.take k))] 81) ∧ Below w.heap.size w wr)
      (fun t _ => ks.length - (intOf t).toNat)
    case atStart => exact ⟨0, by omega, rfl, HW.out.1, by
      rw [show lastK ps ks 0 = lastP ps from rfl]
      have hz : ((ps.length : Int) + manyL (ks.take 0)) = (ps.length : Int) := by simp [manyL]
      rw [hz]
      exact HW.out.2.1, HW.out.2.2.drew⟩
    case round =>
      obtain ⟨k, hkk, rfl, hA, hL, hb⟩ := hrel
      have HBr := hide hb
      by_cases hlt : k < ks.length
      · obtain ⟨b, off, rfl, hbB, hc⟩ := k4 (by rintro rfl; simp at hlt)
        have d0 := (hb.cell (p := ⟨b, off + k * 3 + 0, none⟩) hbB).trans (hc k hlt 0 _ rfl)
        have d1 := (hb.cell (p := ⟨b, off + k * 3 + 1, none⟩) hbB).trans (hc k hlt 1 _ rfl)
        have d2 := (hb.cell (p := ⟨b, off + k * 3 + 2, none⟩) hbB).trans (hc k hlt 2 _ rfl)
        simp only [Nat.add_zero] at d0
        have hst := manyL_step ks k hlt
        have hw1 := manyL_within l2 l3 k
        have hw2 := manyL_within l2 l3 (k + 1)
        rw [hst] at hw2
        have hls := lastK_step ps ks k hlt
        have hsz : w.heap.size + 1 < wr.heap.size := lt_of_heap hL
        have n0 := cell_of_row _ (w.heap.size + 1) 0 _ _ _ hL
        simp only [List.getElem?_toArray, List.getElem?_cons_zero] at n0
        have f0 := frozen0 (j := 0) hL
        have hne0 : w.heap.size ≠ w.heap.size + 1 := by omega
        have hA1 := (heap_setOther (w := wr) (j := 0) (u := .string (strB ks[k].1)) hne0).trans hA
        have hL1 := heap_set3a (u0 := .string (strB ks[k].1)) hL
        have hB1 := hb.setCell (p := ⟨w.heap.size + 1, 0, none⟩) (by simp) (.string (strB ks[k].1))
        have hz1 : (wr.setCell ⟨w.heap.size + 1, 0, none⟩ (.string (strB ks[k].1))).heap.size = wr.heap.size := by simp [World.setCell]
        generalize ks[k] = x at *
        have hA2 := (heap_past (wr.setCell ⟨w.heap.size + 1, 0, none⟩ (.string (strB x.1))) (.cells #[.string (strB x.1), .string (strB x.2.1), .int .i64 x.2.2] 81) _ (lt_of_heap hA1)).trans hA1
        have hL2 := (heap_past (wr.setCell ⟨w.heap.size + 1, 0, none⟩ (.string (strB x.1))) (.cells #[.string (strB x.1), .string (strB x.2.1), .int .i64 x.2.2] 81) _ (lt_of_heap hL1)).trans hL1
        have hK2 := heap_last (wr.setCell ⟨w.heap.size + 1, 0, none⟩ (.string (strB x.1))) (.cells #[.string (strB x.1), .string (strB x.2.1), .int .i64 x.2.2] 81) _ hz1.symm
        have hB2 := hB1.alloc hB1.size (.cells #[.string (strB x.1), .string (strB x.2.1), .int .i64 x.2.2] 81)
        have m2 := cell_of_row _ (w.heap.size + 1) 2 _ _ _ hL2
        have m3 := cell_of_row _ wr.heap.size 2 _ _ _ hK2
        simp only [List.getElem?_toArray, List.getElem?_cons_zero, List.getElem?_cons_succ] at m2 m3
        have f2 := frozen0 (j := 2) hL2
        have HS := hide (And.intro hst (And.intro hls (And.intro hA1 (And.intro hL1 hB1))))
        generalize manyL (ks.take k) = z at *
        clear hst hb hc hA hL hls hA1 hL1 hA2 hL2 hK2 hB1 hB2 hz1
        go_wp2
        go_roundw
        case rel =>
          have q1 := (heap_setOther (j := 2) (u := .int .i64 ((ps.length : Int) + z + x.2.2)) hne0).trans HS.out.2.2.1
          have q2 := Mp.heap_set HS.out.2.2.2.1 2 (.int .i64 ((ps.length : Int) + z + x.2.2))
          refine ⟨k + 1, by omega, by go_num, (heap_past _ _ _ (lt_of_heap q1)).trans q1, (heap_past _ _ _ (lt_of_heap q2)).trans ?_, ?_⟩
          · rw [q2, HS.out.1, HS.out.2.1, ← Int.add_assoc]; rfl
          · exact (HS.out.2.2.2.2.setCell (p := ⟨w.heap.size + 1, 2, none⟩) (by simp) _).alloc (by have := HBr.out.size; simp [World.setCell]; omega) _
        case measure => simp [intOf]; omega
      · obtain rfl : k = ks.length := by omega
        rw [List.take_length] at hL
        have m0 := cell_of_row _ (w.heap.size + 1) 0 _ _ _ hL
        have m1 := cell_of_row _ (w.heap.size + 1) 1 _ _ _ hL
        have m2 := cell_of_row _ (w.heap.size + 1) 2 _ _ _ hL
        have n0 := cell_of_row _ w.heap.size 0 _ _ _ hA
        have n1 := cell_of_row _ w.heap.size 1 _ _ _ hA
        have n2 := cell_of_row _ w.heap.size 2 _ _ _ hA
        simp only [List.getElem?_toArray, List.getElem?_cons_zero, List.getElem?_cons_succ] at m0 m1 m2 n0 n1 n2
        have f0 := frozen0 (j := 0) hA
        have f1 := frozen0 (j := 1) hA
        have f2 := frozen0 (j := 2) hA
        have HA := hide hA
        clear hb k4 hA hL
        go_wp2
        refine bodyPost_ret (results_cell_row rfl _ _ _ _ _ _ _ rfl (heap_set3all HA.out) Try.underlying81 rfl Try.infoLinkD) rfl ⟨rfl, ?_⟩
        exact (((HBr.out.setCell (p := ⟨w.heap.size, 0, none⟩) (Nat.le_refl _) _).setCell (p := ⟨w.heap.size, 1, none⟩) (Nat.le_refl _) _).setCell (p := ⟨w.heap.size, 2, none⟩) (Nat.le_refl _) _)
end Go.Proofs.Ytldfjpgcemfpjaa

/-
  Asking for a node, and reading one that was met. Conditions: the get keeps its word; the comparing lies there.
-/
namespace Go.Proofs.Ytldfjpgcemfpjaa
open Go.RowKit

/-- A node was asked for: it lies in a new block, or an error is told. -/
def askSaid (B : Nat) (w' : World) (r : Int × NodeM) (e : Ending) : Prop :=
  if r.1 = 0 then ∃ g vk vp, e = .returned (.tuple #[.pointer (some ⟨g, 0, none⟩), .int .i64 0]) ∧ B ≤ g ∧ w'.heap[g]? = some (.cells #[.int .i64 r.2.1, vk, vp] 107) ∧ Rw B w' 81 3 linkC vk r.2.2.2 ∧ Rw B w' 48 2 pairC vp r.2.2.1
  else e = .returned (.tuple #[.pointer none, .int .i64 r.1])
section
variable {B : Nat} {w : World} {c mb g : Nat} {caps : Array Value} {fd : Bs → Option Bs} {I : World → List Bs → Prop} {S : Gh} {σ : Cm}
theorem Kp.trans {a b d : World} (h : Kp a b) (k : Kp b d) : Kp a d := fun i ob hi ho => k i ob (h i ob hi ho) ho
set_option maxRecDepth 40000 in
set_option maxHeartbeats 1600000 in
theorem dask_any (hG : GetD g caps fd B I) (h : CmW B w c mb (.func (.func g) #[] caps) S σ) (id : Bs) {asked : List Bs} (hI : I w asked) (hn : asked.length ≤ 4294967296) :
    Calls Try.prog 45 #[.pointer (some ⟨c, 0, none⟩), .string (strB id)] w fun e w' => askSaid w.heap.size w' (askM fd (rootK id) (-1)) e ∧ I w' (asked ++ [id]) ∧ Below B w w' ∧ Kp w w' := by
  obtain ⟨cs, hc, hsz, k0, -, -⟩ := h.blk
  have c0 := cell_of_row w c 0 _ _ _ hc
  rw [k0] at c0
  have eg := hG.eg
  have hB := h.le
  have hcl := hG.call w asked id hI hn
  have HG := hide hG
  clear hc hsz k0 hG h hI
  unfold askSaid
  cases hf : fd id with
  | none =>
    rw [askM_miss (k := rootK id) hf]
    rw [hf] at hcl
    unfold foundV at hcl
    simp only at hcl ⊢
    go_enter Try.func45, Try.ntmps45
    go_wp2_with fail
    refine hcl.mono ?_
    rintro e w1 ⟨rfl, hI1, hb1, hk1⟩
    have H1 := hide (And.intro hI1 (And.intro hb1 hk1))
    clear hcl hI1 hb1 hk1 c0
    go_wp2
    go_ret2
    exact ⟨by simp, H1.out.1, H1.out.2.1, H1.out.2.2⟩
  | some b =>
    have hbl := HG.out.short _ _ hf
    rw [hf] at hcl
    unfold foundV at hcl
    simp only at hcl
    cases hno : nodeM b with
    | none =>
      rw [askM_odd (k := rootK id) hf hno]
      simp only
      go_enter Try.func45, Try.ntmps45
      go_wp2_with fail
      refine hcl.mono ?_
      rintro e w1 ⟨rfl, hI1, hb1, hk1⟩
      have htn := takeBody_any w1 b hbl
      rw [hno] at htn
      simp only at htn
      have H1 := hide (And.intro hI1 (And.intro hb1 hk1))
      clear hcl hI1 hb1 hk1 c0
      go_wp2_with fail
      refine htn.mono ?_
      rintro e w2 ⟨⟨p, rfl⟩, hb2⟩
      have H2 := hide hb2
      clear htn hb2
      go_wp2
      go_ret2
      exact ⟨by simp, HG.out.below H1.out.1 H2.out, H1.out.2.1.trans (H2.out.mono (Nat.le_trans hB H1.out.2.1.size)), H1.out.2.2.trans (Kp.of H2.out)⟩
    | some n =>
      rw [askM_root_ok hf hno]
      simp only
      go_enter Try.func45, Try.ntmps45
      go_wp2_with fail
      refine hcl.mono ?_
      rintro e w1 ⟨rfl, hI1, hb1, hk1⟩
      have htn := takeBody_any w1 b hbl
      rw [hno] at htn
      simp only at htn
      have H1 := hide (And.intro hI1 (And.intro hb1 hk1))
      clear hcl hI1 hb1 hk1 c0
      go_wp2_with fail
      refine htn.mono ?_
      rintro e w2 ⟨⟨q, vk, vp, rfl, hq, hbody, hlk, hpr⟩, hb2⟩
      have H2 := hide (And.intro hb2 (And.intro hq (And.intro hbody (And.intro hlk hpr))))
      clear htn hb2 hq hbody hlk hpr
      go_wp2
      go_ret2
      have hs := H1.out.2.1.size
      refine ⟨?_, HG.out.below H1.out.1 H2.out.1, H1.out.2.1.trans (H2.out.1.mono (Nat.le_trans hB hs)), H1.out.2.2.trans (Kp.of H2.out.1)⟩
      exact ⟨_, rfl, Nat.le_trans hs H2.out.2.1, _, _, H2.out.2.2.1, own_down H2.out.2.2.2.1 hs, own_down H2.out.2.2.2.2 hs⟩
/-- Other tags for blocks that are not there. -/
theorem CmW.retag {gv : Value} (h : CmW B w c mb gv S σ) (tg : Nat → Nat) (ht : ∀ q, q < w.heap.size → tg q = S.tg q) : CmW B w c mb gv ⟨S.ad, tg, S.rv⟩ σ := by
  refine ⟨h.base, h.blk, h.levs, h.prs, fun k hk q hq => ?_, fun id hid => ?_, h.map, h.mbB⟩
  · exact (ht q (h.tag_lt hk hq)).trans (h.tags k hk q hq)
  · obtain ⟨bp, g1, g2, g3⟩ := h.nodes id hid
    exact ⟨bp, g1, g2.keep (fun g n hb => hb.keep (fun _ h => h) (fun _ _ h => h) (fun v xs hr hq => ⟨hr, fun q hq' => (ht q (hr.lt q hq').2).trans (hq q hq')⟩)), g3⟩
end
end Go.Proofs.Ytldfjpgcemfpjaa
