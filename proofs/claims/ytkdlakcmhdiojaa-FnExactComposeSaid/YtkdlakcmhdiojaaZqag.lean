/- Several texts in one: Psh Gkw Gkx Mpg Gmf Gky Gmt. -/
import Derived.Maps.AppendAt
import Derived.Deep.AppendLies
import Derived.OwnWalk
import Derived.Below
import Derived.WalkKit
import Derived.Test.YtkdlakcmhdiojaaZqaf
import Derived.Test.YtkdlakcmhdiojaaZqad
import Derived.Maps.OwnSet
import Derived.Deep.RegionHeld3
/- One element more at the end of a row that the call owns. -/
namespace Go.Proofs.Ytkdlakcmhdiojaa
open Go.RowKit
def isSl' (v : Value) : Prop := ∃ a n c, v = .slice a n c
theorem append_run {P : Program} {w : World} {ops : Array Oper} {rest : List Oper} {o : Oper} {a : Act} {Q : Exit → Act → World → Prop}
    (hg : o.guard = none) (s x : Operand) (t : TypeId) (hop : o.op = Op.call { callee := Callee.builtin Builtin.append, args := #[s, x], argTypes := #[t, t] })
    (v u : Value) (hs : a.eval s = v) (hx : a.eval x = u) (r : Value) (w' : World) (hrun : (Builtin.append_ #[t, t] o.type #[v, u]).run P w = .ok r w')
    (hK : wpList P ops Q rest (a.put o.dst r) w') : wpList P ops Q (o :: rest) a w := by
  refine wpList_plain hg fun K hK' => ?_
  unfold Oper.wp execOp
  simp only [hop, resolve, invoke, builtin, Sem.run_bind, Sem.run_pure, Result.andThen_ok, List.map_toArray, List.map_cons, List.map_nil, hs, hx, hrun]
  exact hK' _ _ hK
theorem new_block (w : World) (o : Obj) : (w.alloc o).heap[w.heap.size]? = some o := by
  show (w.heap.push o)[w.heap.size]? = _
  simp
/-- The cells cs of one element come behind a row of n elements. -/
theorem push_own {P : Program} {ts e : TypeId} {z : Value} {sz bytes : Nat} (hu : P.underlying ts = some (.slice e)) (hi : (P.info? e).map (fun i => (i.zero, i.size, i.bytes)) = some (some z, sz, bytes)) (hz : z.cells.size = sz) (h0 : 0 < sz)
    (w : World) (lo : Nat) (v : Value) (n : Nat) (xs : List Value) (hown : w.ownsRow lo e sz v n xs) (cs : Array Value) (hl : cs.toList.length = sz) (h1 : ∀ u ∈ cs.toList, u.oneCell' = true) (hn : n ≤ 100000000) (hb : bytes ≤ 1000) (hlo : lo ≤ w.heap.size) (ty : TypeId) :
    ∃ v' w', (Builtin.append_ #[ts, ts] ty #[v, .slice (some ⟨w.heap.size, 0, none⟩) 1 1]).run P (w.alloc (.cells cs e)) = .ok v' w' ∧ isSl' v' ∧ w'.ownsRow lo e sz v' (n + 1) (xs ++ cs.toList) ∧ Below lo w w' ∧
      (∀ b, b < w.heap.size → v.ownBlock ≠ some b → w'.heap[b]? = w.heap[b]?) := by
  obtain ⟨ti, hti, hz0, hz1, hz2⟩ := info_parts hi
  obtain ⟨v2, w2, hr2, ho2, hg2, _, _⟩ := run_append_own_at (P := P) (w.alloc (.cells cs e)) lo ts ty e ti z sz bytes hu hti hz0 hz1 hz2 hz h0 v n xs (hown.alloc _) ⟨w.heap.size, 0, none⟩ 1 1 cs.toList (by rw [hl, Nat.one_mul])
    (World.news_of_block (cs := cs) (t := e) (fr := (0, 0)) (new_block w _)) h1 (by unfold maxLen; omega) (by
      have : (n + 1) * bytes ≤ 100000001 * 1000 := Nat.mul_le_mul (by omega) hb
      omega) (by simp; omega)
  have hsz : w.heap.size ≤ w2.heap.size := by have := hg2.size; simp at this; omega
  have hblk : ∀ b, b < w.heap.size → v.ownBlock ≠ some b → w2.heap[b]? = w.heap[b]? := fun b hb hne => (hg2.block b (by simp; omega) (fun e => hne e.symm)).trans (Below.heap_alloc w _ b hb)
  have hlo2 : ∀ b, v.ownBlock = some b → lo ≤ b := fun b hb => (hown.lt b hb).1
  refine ⟨v2, w2, hr2, ?_, ho2, ⟨hg2.os, hg2.tape, hg2.output, hsz, fun b hb => hblk b (by omega) (fun e => by have := hlo2 b e; omega)⟩, hblk⟩
  rcases ho2.2 with ⟨e, _⟩ | ⟨g, cap, cur, e, _⟩
  · exact ⟨_, _, _, e⟩
  · exact ⟨_, _, _, e⟩
/-- The cells cs of one element come behind a row of n elements. -/
theorem push_own2 {P : Program} {ts e : TypeId} {z : Value} {sz bytes : Nat} (hu : P.underlying ts = some (.slice e)) (hi : (P.info? e).map (fun i => (i.zero, i.size, i.bytes)) = some (some z, sz, bytes)) (hz : z.cells.size = sz) (h0 : 0 < sz)
    (w : World) (lo : Nat) (v : Value) (n : Nat) (xs : List Value) (hown : w.ownsRow lo e sz v n xs) (cs : Array Value) (hl : cs.toList.length = sz) (h1 : ∀ u ∈ cs.toList, u.oneCell' = true) (hn : n ≤ 100000000) (hb : bytes ≤ 1000) (hlo : lo ≤ w.heap.size) (ty : TypeId) :
    ∃ v' w', (Builtin.append_ #[ts, ts] ty #[v, .slice (some ⟨w.heap.size, 0, none⟩) 1 1]).run P (w.alloc (.cells cs e)) = .ok v' w' ∧ isSl' v' ∧ w'.ownsRow lo e sz v' (n + 1) (xs ++ cs.toList) ∧ Below lo w w' ∧
      (∀ b, b < w.heap.size → v.ownBlock ≠ some b → w'.heap[b]? = w.heap[b]?) ∧ (v'.ownBlock = v.ownBlock ∨ v'.ownBlock = some (w.heap.size + 1)) := by
  obtain ⟨ti, hti, hz0, hz1, hz2⟩ := info_parts hi
  obtain ⟨v2, w2, hr2, ho2, hg2, _, hid2⟩ := run_append_own_at (P := P) (w.alloc (.cells cs e)) lo ts ty e ti z sz bytes hu hti hz0 hz1 hz2 hz h0 v n xs (hown.alloc _) ⟨w.heap.size, 0, none⟩ 1 1 cs.toList (by rw [hl, Nat.one_mul])
    (World.news_of_block (cs := cs) (t := e) (fr := (0, 0)) (new_block w _)) h1 (by unfold maxLen; omega) (by
      have : (n + 1) * bytes ≤ 100000001 * 1000 := Nat.mul_le_mul (by omega) hb
      omega) (by simp; omega)
  have hsz : w.heap.size ≤ w2.heap.size := by have := hg2.size; simp at this; omega
  have hblk : ∀ b, b < w.heap.size → v.ownBlock ≠ some b → w2.heap[b]? = w.heap[b]? := fun b hb hne => (hg2.block b (by simp; omega) (fun e => hne e.symm)).trans (Below.heap_alloc w _ b hb)
  have hlo2 : ∀ b, v.ownBlock = some b → lo ≤ b := fun b hb => (hown.lt b hb).1
  refine ⟨v2, w2, hr2, ?_, ho2, ⟨hg2.os, hg2.tape, hg2.output, hsz, fun b hb => hblk b (by omega) (fun e => by have := hlo2 b e; omega)⟩, hblk, by simpa using hid2⟩
  rcases ho2.2 with ⟨e, _⟩ | ⟨g, cap, cur, e, _⟩
  · exact ⟨_, _, _, e⟩
  · exact ⟨_, _, _, e⟩
theorem row_same {w w' : World} {base : Nat} {e : TypeId} {size : Nat} {v : Value} {n : Nat} {xs : List Value} (h : w.ownsRow base e size v n xs) (hw : ∀ k, base ≤ k → k < w.heap.size → w'.heap[k]? = w.heap[k]?) : w'.ownsRow base e size v n xs := by
  refine ⟨h.1, ?_⟩
  rcases h.2 with hn | ⟨g, cap, cur, rfl, hb, hgg, rest⟩
  · exact .inl hn
  · exact .inr ⟨g, cap, cur, rfl, hb, by rw [hw g hb (Array.getElem?_eq_some_iff.1 hgg).1]; exact hgg, rest⟩
end Go.Proofs.Ytkdlakcmhdiojaa
/- Knots: lists of pointers that can be read; the program's web.at. -/
namespace Go.Proofs.Ytkdlakcmhdiojaa
open Go.ChangeShapes Go.WideShapes Go.ChangeAt Go.RowKit Go.Deep
theorem infoKn : (Try.prog.info? 84).map (fun i => (i.zero, i.size, i.bytes)) = some (some (.pointer none), 1, 8) := by kernel_rfl
theorem infoKt : (Try.prog.info? 89).map (fun i => i.size) = some 4 := by kernel_rfl
def plV (l : List Nat) : List Value := l.map ptr
theorem plV_len (l : List Nat) : (plV l).length = l.length := by unfold plV; simp
theorem plV_snoc (l : List Nat) (b : Nat) : plV (l ++ [b]) = plV l ++ [ptr b] := by unfold plV; simp
/-- A list of pointers to blocks, that can be read. -/
def PlAt (w : World) (v : Value) (l : List Nat) : Prop :=
  (l = [] ∧ ∃ a c, v = .slice a 0 c) ∨ (l ≠ [] ∧ ∃ b off c, v = .slice (some ⟨b, off, none⟩) l.length c ∧ b < w.heap.size ∧ ∀ (i n : Nat), l[i]? = some n → w.cell? ⟨b, off + i, none⟩ = some (ptr n))
theorem PlAt.sl {w : World} {v : Value} {l : List Nat} (h : PlAt w v l) : ∃ a c, v = .slice a l.length c := by
  rcases h with ⟨rfl, a, c, rfl⟩ | ⟨_, b, off, c, rfl, _⟩
  · exact ⟨a, c, rfl⟩
  · exact ⟨_, c, rfl⟩
theorem PlAt.at {w : World} {a : Option Addr} {c : Nat} {l : List Nat} (h : PlAt w (.slice a l.length c) l) {k n : Nat} (hx : l[k]? = some n) : ∃ b off, a = some ⟨b, off, none⟩ ∧ b < w.heap.size ∧ w.cell? ⟨b, off + k, none⟩ = some (ptr n) := by
  rcases h with ⟨e1, _⟩ | ⟨_, b, off, _, e1, hbl, hcell⟩
  · rw [e1] at hx; simp at hx
  · injection e1 with e1
    exact ⟨b, off, e1, hbl, hcell k n hx⟩
theorem PlAt.later {w w' : World} {v : Value} {l : List Nat} (h : PlAt w v l) (hb : Below w.heap.size w w') : PlAt w' v l := by
  rcases h with h | ⟨h0, b, off, c, e, hlt, hc⟩
  · exact .inl h
  · exact .inr ⟨h0, b, off, c, e, Nat.lt_of_lt_of_le hlt hb.size, fun i n hi => by rw [hb.cell hlt]; exact hc i n hi⟩
theorem pl_of_own {w : World} {lo : Nat} {v : Value} {l : List Nat} (h : w.ownsRow lo 84 1 v l.length (plV l)) : PlAt w v l := by
  by_cases hz : l = []
  · subst hz
    left
    rcases h.2 with ⟨e, _⟩ | ⟨g, cap, cur, e, _⟩
    · exact ⟨rfl, _, _, e⟩
    · exact ⟨rfl, _, _, e⟩
  · right
    have hpos : 0 < l.length := List.length_pos_iff.2 hz
    rcases h.2 with ⟨_, e⟩ | ⟨g, cap, cur, rfl, _, hg, _⟩
    · omega
    · refine ⟨hz, g, 0, cap, rfl, (Array.getElem?_eq_some_iff.1 hg).1, fun i n hi => ?_⟩
      have hx : (plV l)[i]? = some (ptr n) := by unfold plV; rw [List.getElem?_map, hi]; rfl
      have h1 := h.cells (g := g) rfl i _ hx
      have a1 : (⟨g, 0, none⟩ : Addr).add i = ⟨g, i, none⟩ := by unfold Addr.add; split <;> simp_all
      rw [a1] at h1
      rw [Nat.zero_add]
      exact h1
/-- The blocks of nodes told by their places. -/
def blk (Ps : List Nat) (k : Int) : Nat := Ps.getD k.toNat 0
theorem blk_at {Ps : List Nat} {m : Nat} (h : m < Ps.length) : Ps[m]? = some (blk Ps (m : Int)) := by
  unfold blk
  simp [List.getD, List.getElem?_eq_getElem h]
end Go.Proofs.Ytkdlakcmhdiojaa
/- The program's web of a graph, in memory. -/
namespace Go.Proofs.Ytkdlakcmhdiojaa
open Go.ChangeShapes Go.WideShapes Go.ChangeAt Go.RowKit Go.Deep
theorem row_apart {w : World} {lo e sz : Nat} {v : Value} {n : Nat} {xs : List Value} (h : w.ownsRow lo e sz v n xs) {b : Nat} {cs : Array Value} {t : TypeId} {fr : Nat × Nat} (hb : w.heap[b]? = some (.cells cs t fr)) (hne : t ≠ e) : v.ownBlock ≠ some b := by
  intro hv
  rcases h.2 with ⟨e1, _⟩ | ⟨g, cap, cur, rfl, _, h1, _⟩
  · rw [e1] at hv; simp [Value.ownBlock] at hv
  · have e2 : g = b := by simpa [Value.ownBlock] using hv
    subst e2
    rw [h1] at hb
    injection hb with hb
    injection hb with _ hb
    exact hne hb.symm
theorem row_set {w : World} {lo e sz : Nat} {v : Value} {n : Nat} {xs : List Value} (h : w.ownsRow lo e sz v n xs) {b : Nat} (hne : v.ownBlock ≠ some b) (j : Nat) (u : Value) : (w.setCell ⟨b, j, none⟩ u).ownsRow lo e sz v n xs :=
  g_row_block h (fun g hg => heap_setCell_other _ _ _ _ (fun e => hne (by rw [hg]; exact congrArg some e)))
def knV (n : Nd) (kv : Value) : Array Value := #[.int .i64 n.kind, .string n.tag, .string n.text, kv]
section
variable {lo X k j : Nat} {g : Gr} {Ps : List Nat} {w w' : World}
theorem blk_mem {Ps : List Nat} {i : Nat} (h : i < Ps.length) : blk Ps (i : Int) ∈ Ps := List.mem_of_getElem? (blk_at h)
theorem blk_inj (hnd : Ps.Nodup) {a b : Nat} (ha : a < Ps.length) (hb : b < Ps.length) (h : blk Ps (a : Int) = blk Ps (b : Int)) : a = b := by
  have h1 := blk_at ha
  have h2 := blk_at hb
  rw [h, ← h2] at h1
  rw [List.getElem?_eq_getElem ha, List.getElem?_eq_getElem hb] at h1
  have h3 := Option.some.inj h1
  have hpw := List.pairwise_iff_getElem.1 hnd
  rcases Nat.lt_trichotomy a b with hlt | heq | hlt
  · exact absurd h3 (hpw a b ha hb hlt)
  · exact heq
  · exact absurd h3.symm (hpw b a hb ha hlt)
theorem kn_set3 {w : World} {b : Nat} {n : Nd} {kv : Value} (h : w.heap[b]? = some (.cells (knV n kv) 89 (0, 0))) (u : Value) : (w.setCell ⟨b, 3, none⟩ u).heap[b]? = some (.cells (knV n u) 89 (0, 0)) := by
  simp [World.setCell, Array.getElem?_modify, h, knV]
end
/-- A web that can be read. -/
structure WebAt (w : World) (g : Gr) (Ps : List Nat) (kn rt : Value) : Prop where
  len : Ps.length = g.nodes.length
  nd : Ps.Nodup
  knots : PlAt w kn Ps
  roots : PlAt w rt (g.roots.map (blk Ps))
  knot : ∀ (i : Nat) (n : Nd), g.nodes[i]? = some n → ∃ kv, w.heap[blk Ps (i : Int)]? = some (.cells (knV n kv) 89 (0, 0)) ∧ PlAt w kv (n.kids.map (blk Ps))
theorem WebAt.later {w w' : World} {g : Gr} {Ps : List Nat} {kn rt : Value} (h : WebAt w g Ps kn rt) (hb : Below w.heap.size w w') : WebAt w' g Ps kn rt := by
  refine ⟨h.len, h.nd, h.knots.later hb, h.roots.later hb, fun i n hn => ?_⟩
  obtain ⟨kv, h1, h2⟩ := h.knot i n hn
  exact ⟨kv, (hb.block _ (Array.getElem?_eq_some_iff.1 h1).1).trans h1, h2.later hb⟩
theorem WebAt.live {w : World} {g : Gr} {Ps : List Nat} {kn rt : Value} (h : WebAt w g Ps kn rt) {b : Nat} (hb : b ∈ Ps) : Live w b := by
  obtain ⟨i, hi⟩ := List.mem_iff_getElem?.1 hb
  have hil : i < Ps.length := (List.getElem?_eq_some_iff.1 hi).1
  have hbe : blk Ps (i : Int) = b := by rw [blk_at hil] at hi; exact Option.some.inj hi
  obtain ⟨kv, h1, _⟩ := h.knot i _ (List.getElem?_eq_getElem (by rw [← h.len]; exact hil))
  rw [hbe] at h1
  exact ⟨_, _, h1⟩
end Go.Proofs.Ytkdlakcmhdiojaa
/- A map in memory, as a plain function of its keys. -/
namespace Go.Proofs.Ytkdlakcmhdiojaa
open Go.Maps Go.RowKit
def RH (v : Value) : Option (DataW Value × List MemPlace) := some (.held v, [])
def putFn {K V : Type} [DecidableEq K] (f : K → Option V) (x : K) (p : V) : K → Option V := fun y => if x = y then some p else f y
structure MapFn {K V : Type} (kf : K → Lit) (vf : V → Value) (D : DataW Value) (f : K → Option V) : Prop where
  isMap : IsMap D
  has : ∀ x, Maps.has D (kf x) = (f x).isSome
  at_ : ∀ x p, f x = some p → ∀ z, D.atKey (kf x) z = .held (vf p)
/-- Keys that differ are told apart. -/
structure KeyFn {K : Type} (kf : K → Lit) : Prop where
  inj : ∀ a b, a ≠ b → kf a ≠ kf b
  lit : ∀ a, WideAt.IsKeyLit (kf a)
section
variable {K V : Type} {kf : K → Lit} {vf : V → Value} {D : DataW Value} {f : K → Option V} {P : Program} {kt t e : TypeId} {w w' : World} {B n : Nat}
theorem MapFn.start : MapFn kf vf (.map []) (fun _ => none) := ⟨⟨_, rfl⟩, fun x => by simp [Maps.has], fun x p h => by simp at h⟩
theorem MapFn.put [DecidableEq K] (h : MapFn kf vf D f) (hk : KeyFn kf) (x : K) (p : V) : MapFn kf vf (D.put (kf x) (.held (vf p))) (putFn f x p) := by
  refine ⟨h.isMap.put _ _, fun y => ?_, fun y q hq z => ?_⟩
  · unfold putFn
    by_cases e : x = y
    · subst e
      rw [has_put_same h.isMap (hk.lit _)]; simp
    · rw [has_put_other (hk.inj _ _ (Ne.symm e)), h.has y]; simp [e]
  · unfold putFn at hq
    by_cases e : x = y
    · subst e
      simp at hq
      subst hq
      exact atKey_put_same h.isMap (hk.lit _) _ _
    · simp [e] at hq
      rw [atKey_put_other (hk.inj _ _ (Ne.symm e))]
      exact h.at_ y q hq z
def MapM (P : Program) (kt : TypeId) (kf : K → Lit) (vf : V → Value) (w : World) (B n : Nat) (f : K → Option V) : Prop := ∃ D, w.ownsMap P kt RH B n D ∧ MapFn kf vf D f
theorem MapM.lt (h : MapM P kt kf vf w B n f) : B < w.heap.size := h.elim fun _ h => h.1.lt
theorem MapM.same (h : MapM P kt kf vf w B n f) (hb : w'.heap[B]? = w.heap[B]?) : MapM P kt kf vf w' B n f := by
  obtain ⟨D, h1, h2⟩ := h
  obtain ⟨es, clock, he, F, hs, hD⟩ := h1
  exact ⟨D, ⟨es, clock, hb.trans he, F, hs, hD⟩, h2⟩
theorem MapM.isMap (h : MapM P kt kf vf w B n f) : ∃ es clock, w.heap[B]? = some (.map es clock) := by
  obtain ⟨D, ⟨es, clock, he, _⟩, _⟩ := h
  exact ⟨es, clock, he⟩
theorem MapM.made (w : World) (P : Program) (kt : TypeId) (kf : K → Lit) (vf : V → Value) : MapM P kt kf vf (w.alloc (.map #[] 0)) w.heap.size 0 (fun _ => none) := ⟨_, World.ownsMap_made w _ _ _, MapFn.start⟩
theorem MapM.put [DecidableEq K] (h : MapM P kt kf vf w B n f) (hk : KeyFn kf) (K1 : Keyed P kt) (ht : P.underlying t = some (.map kt e)) (x : K) (p : V) {key : Value} (hx : keyOf P kt key = some (kf x)) (hn : n < maxLen) :
    ∃ w', (Instr.mapUpdate t (.map (some B)) key (vf p)).run P w = .ok () w' ∧ MapM P kt kf vf w' B (n + 1) (putFn f x p) ∧ w.grownBy w' (some B) := by
  obtain ⟨D, h1, h2⟩ := h
  obtain ⟨w', hup, hown, hg⟩ := h1.update K1 ht hn (key := key) (val := vf p) hx rfl
  exact ⟨w', hup, ⟨_, hown, h2.put hk x p⟩, hg⟩
theorem MapM.look_yes (h : MapM P kt kf vf w B n f) (K1 : Keyed P kt) (ht : P.underlying t = some (.map kt e)) {z : Value} (hz : (zeroValue e).run P w = .ok z w) {x : K} {p : V} {key : Value} (hx : keyOf P kt key = some (kf x)) (hf : f x = some p) :
    (Instr.lookup t (.map (some B)) key true).run P w = .ok (.tuple #[vf p, .bool true]) w := by
  obtain ⟨D, h1, h2⟩ := h
  obtain ⟨v, ps, hrun, hv⟩ := h1.look_ok K1 ht hz (zd := .held z) (zp := []) rfl hx
  rw [h2.has x, hf] at hrun
  rw [h2.at_ x p hf] at hv
  simp only [RH, Option.some.injEq, Prod.mk.injEq, DataW.held.injEq] at hv
  rw [hv.1] at hrun
  exact hrun
theorem MapM.look_no (h : MapM P kt kf vf w B n f) (K1 : Keyed P kt) (ht : P.underlying t = some (.map kt e)) {z : Value} (hz : (zeroValue e).run P w = .ok z w) {x : K} {key : Value} (hx : keyOf P kt key = some (kf x)) (hf : f x = none) :
    (Instr.lookup t (.map (some B)) key true).run P w = .ok (.tuple #[z, .bool false]) w := by
  obtain ⟨D, h1, h2⟩ := h
  obtain ⟨es, clock, hb, F, hs, hD⟩ := h1
  have hh := h2.has x
  rw [hf] at hh
  rcases Maps.fit_look true K1 ht hz hb F hx with ⟨hrun, _, hat⟩ | ⟨e0, y, _, _, hrun, hRv, hat, _⟩
  · exact hrun
  · have := Maps.has_true_of_atKey hat
    rw [← hD, hh] at this
    cases this
end
end Go.Proofs.Ytkdlakcmhdiojaa
/- The program's loom, plain: what it has at a place, by the blocks of its knots. -/
namespace Go.Proofs.Ytkdlakcmhdiojaa
open Go.RowKit
theorem cnt_lt {l : List Ev} {m k : Nat} (hr : realB l m = true) (h : m < k) : cntR l m < cntR l k := by
  have h1 := reals_at hr (k - (m + 1))
  rw [show m + 1 + (k - (m + 1)) = k by omega] at h1
  exact (List.getElem?_eq_some_iff.1 h1).1
theorem num_lt {l : List Ev} (hw : whole l = true) {j k : Nat} (hj : j < k) (hb : nodB l j = true) : 0 ≤ numI l j ∧ numI l j < (cntR l k : Int) := by
  obtain ⟨h1, _, h3⟩ := whole_parts hw
  obtain ⟨e, he, hn⟩ := nodB_lt hb
  have hl := (List.getElem?_eq_some_iff.1 he).1
  by_cases h6 : e.kind = 6
  · obtain ⟨m, _, hm, hr, hnum⟩ := alias_to h1 he h6 (h3 j hl)
    have := cnt_lt hr (Nat.lt_trans hm hj)
    omega
  · have hr : realB l j = true := by rw [real_node he, hn, decide_eq_true h6]; rfl
    have := cnt_lt hr hj
    have := num_real he h6
    omega
theorem kids_lt {l : List Ev} (hw : whole l = true) {u : Int} {k : Nat} {x : Int} (hx : x ∈ kidsTo l u k) : 0 ≤ x ∧ x < (cntR l k : Int) := by
  unfold kidsTo at hx
  obtain ⟨j, hj, rfl⟩ := List.mem_map.1 hx
  obtain ⟨h1, h2⟩ := List.mem_filter.1 hj
  unfold inAt at h2
  rw [Bool.and_eq_true] at h2
  exact num_lt hw (List.mem_range.1 h1) h2.1
theorem blk_app {mb : List Nat} {b : Nat} {x : Int} (h0 : 0 ≤ x) (h : x < (mb.length : Int)) : blk (mb ++ [b]) x = blk mb x := by
  unfold blk
  rw [List.getD, List.getD, List.getElem?_append_left (by omega)]
theorem blk_new (mb : List Nat) (b : Nat) : blk (mb ++ [b]) (mb.length : Int) = b := by
  unfold blk
  rw [List.getD, List.getElem?_append_right (by omega)]
  simp
/-- The blocks of the nodes within u, as they were told. -/
def kidB (l : List Ev) (mb : List Nat) (u : Int) (k : Nat) : List Nat := (kidsTo l u k).map (blk mb)
/-- The knots by the places of their events. -/
def knF (l : List Ev) (k : Nat) (mb : List Nat) : Int → Option Nat := fun i => if 0 ≤ i ∧ i < (k : Int) ∧ nodB l i.toNat = true then some (blk mb (numI l i.toNat)) else none
theorem kidB_app {l : List Ev} (hw : whole l = true) {mb : List Nat} {k : Nat} (h : mb.length = cntR l k) (b : Nat) (u : Int) : kidB l (mb ++ [b]) u k = kidB l mb u k := by
  unfold kidB
  refine List.map_congr_left (fun x hx => ?_)
  have := kids_lt hw hx
  exact blk_app this.1 (by omega)
theorem knF_app {l : List Ev} (hw : whole l = true) {mb : List Nat} {k : Nat} (h : mb.length = cntR l k) (b : Nat) : knF l k (mb ++ [b]) = knF l k mb := by
  funext i
  unfold knF
  by_cases hc : 0 ≤ i ∧ i < (k : Int) ∧ nodB l i.toNat = true
  · rw [if_pos hc, if_pos hc]
    have := num_lt hw (j := i.toNat) (k := k) (by omega) hc.2.2
    rw [blk_app this.1 (by omega)]
  · rw [if_neg hc, if_neg hc]
theorem knF_put {l : List Ev} {mb : List Nat} {k : Nat} (hb : nodB l k = true) : putFn (knF l k mb) (k : Int) (blk mb (numI l k)) = knF l (k + 1) mb := by
  funext i
  unfold putFn knF
  by_cases e : (k : Int) = i
  · subst e
    rw [if_pos rfl, if_pos ⟨by omega, by omega, hb⟩]
    rfl
  · rw [if_neg e]
    by_cases hc : 0 ≤ i ∧ i < (k : Int) ∧ nodB l i.toNat = true
    · rw [if_pos hc, if_pos ⟨hc.1, by omega, hc.2.2⟩]
    · rw [if_neg hc, if_neg (fun h => hc ⟨h.1, by omega, h.2.2⟩)]
theorem knF_at {l : List Ev} {mb : List Nat} {j k : Nat} (hj : j < k) (hb : nodB l j = true) : knF l k mb (j : Int) = some (blk mb (numI l j)) := by
  unfold knF
  rw [if_pos ⟨by omega, by omega, hb⟩]
  rfl
theorem inAt_no {l : List Ev} {u : Int} {j : Nat} (h : nodB l j = false) : inAt l u j = false := by unfold inAt; rw [h]; rfl
theorem real_no {l : List Ev} {j : Nat} (h : nodB l j = false) : realB l j = false := by unfold realB; rw [h]; rfl
/-- Where no node stands, nothing comes. -/
theorem gap_same {l : List Ev} : ∀ (d k : Nat), (∀ i, k ≤ i → i < k + d → nodB l i = false) → (∀ u, kidsTo l u (k + d) = kidsTo l u k) ∧ realsTo l (k + d) = realsTo l k ∧ (∀ mb, knF l (k + d) mb = knF l k mb) ∧ gat l (fTie l) Ti.start (k + d) = gat l (fTie l) Ti.start k
  | 0, k, _ => ⟨fun _ => rfl, rfl, fun _ => rfl, rfl⟩
  | d + 1, k, h => by
    obtain ⟨h1, h2, h3, h4⟩ := gap_same d k (fun i h5 h6 => h i h5 (by omega))
    have hd := h (k + d) (by omega) (by omega)
    rw [show k + (d + 1) = (k + d) + 1 by omega]
    refine ⟨fun u => (kidsTo_no (inAt_no hd)).trans (h1 u), (realsTo_no (real_no hd)).trans h2, fun mb => ?_, (gat_no hd).trans h4⟩
    rw [← h3 mb]
    funext i
    unfold knF
    by_cases hc : 0 ≤ i ∧ i < ((k + d : Nat) : Int) ∧ nodB l i.toNat = true
    · rw [if_pos hc, if_pos ⟨hc.1, by omega, hc.2.2⟩]
    · rw [if_neg hc, if_neg (fun h' => by
        by_cases e : i = ((k + d : Nat) : Int)
        · subst e
          have := h'.2.2
          rw [Int.toNat_natCast, hd] at this
          cases this
        · exact hc ⟨h'.1, by omega, h'.2.2⟩)]
theorem nodes_mono {l : List Ev} : ∀ (d a : Nat), (nodesTo l a).length ≤ (nodesTo l (a + d)).length
  | 0, _ => Nat.le_refl _
  | d + 1, a => by
    have h := nodes_mono (l := l) d a
    rw [show a + (d + 1) = (a + d) + 1 by omega]
    cases hb : nodB l (a + d) with
    | true => rw [nodesTo_yes hb, List.length_append]; exact Nat.le_trans h (Nat.le_add_right _ _)
    | false => rw [nodesTo_no hb]; exact h
/-- The next node, behind so many. -/
theorem next_node {l : List Ev} {q k j : Nat} (hq : (nodesTo l k).length = q) (hj : (nodesTo l l.length)[q]? = some j) : k ≤ j ∧ j < l.length ∧ nodB l j = true ∧ (∀ i, k ≤ i → i < j → nodB l i = false) ∧ (nodesTo l (j + 1)).length = q + 1 := by
  have hm := mem_nodes.1 (List.mem_of_getElem? hj)
  obtain ⟨B, hB, _⟩ := nodes_split hm.2 l.length hm.1
  have hnd : (nodesTo l l.length).Nodup := (List.nodup_range).filter _
  have hat : (nodesTo l l.length)[(nodesTo l j).length]? = some j := by
    rw [hB, List.getElem?_append_right (Nat.le_refl _), Nat.sub_self]
    rfl
  have hjq : (nodesTo l j).length = q := (List.getElem?_inj (List.getElem?_eq_some_iff.1 hat).1 hnd).1 (hat.trans hj.symm)
  have hj1 : (nodesTo l (j + 1)).length = q + 1 := by rw [nodesTo_yes hm.2, List.length_append, hjq]; rfl
  have hkj : k ≤ j := by
    rcases Nat.lt_or_ge j k with h | h
    · have := nodes_mono (l := l) (k - (j + 1)) (j + 1)
      rw [show j + 1 + (k - (j + 1)) = k by omega] at this
      omega
    · exact h
  refine ⟨hkj, hm.1, hm.2, fun i h1 h2 => ?_, hj1⟩
  cases hb : nodB l i with
  | false => rfl
  | true =>
    have h3 := nodes_mono (l := l) (i - k) k
    have h4 := nodes_mono (l := l) (j - (i + 1)) (i + 1)
    rw [show k + (i - k) = i by omega] at h3
    rw [show i + 1 + (j - (i + 1)) = j by omega, nodesTo_yes hb, List.length_append, List.length_singleton] at h4
    omega
end Go.Proofs.Ytkdlakcmhdiojaa
/- The program's webOf. -/
namespace Go.Proofs.Ytkdlakcmhdiojaa
open Go.ChangeShapes Go.WideShapes Go.ChangeAt Go.RowKit Go.Deep
end Go.Proofs.Ytkdlakcmhdiojaa
/- A tour in memory: knots are numbered as they are met; the program's meet. -/
namespace Go.Proofs.Ytkdlakcmhdiojaa
open Go.ChangeShapes Go.WideShapes Go.ChangeAt Go.RowKit Go.Deep
theorem ptr_look_nil {P : Program} {w : World} {t kt te e : TypeId} (ht : P.underlying t = some (.map kt e)) (hp : P.underlying kt = some (.pointer te)) {z : Value} (hz : (zeroValue e).run P w = .ok z w) (a : Nat) (c : Bool) :
    (Instr.lookup t (.map none) (ptr a) c).run P w = .ok (if c then .tuple #[z, .bool false] else z) w := by
  simp [Instr.lookup, run_underlying ht, ptr_check hp, Instr.findKey, run_underlying hp, Instr.findNow, hz, Result.andThen]
def natVG (n : Nat) : Value := .int .i64 (n : Int)
theorem zeroNumG (w : World) : (zeroValue 3).run Try.prog w = .ok (.int .i64 0) w := Try.zeroValue3 w
/-- The numbers of what was met. -/
def numF (mb : List Nat) : Nat → Option Nat := fun b => if b ∈ mb then some (ix b mb) else none
theorem numF_put {mb : List Nat} {b : Nat} (h : b ∉ mb) : putP (numF mb) b mb.length = numF (mb ++ [b]) := by
  funext x
  unfold putP numF
  by_cases e : x = b
  · subst e
    rw [if_pos rfl, if_pos (by simp), ix_new h]
  · rw [if_neg e]
    by_cases hx : x ∈ mb
    · rw [if_pos hx, if_pos (by simp [hx]), ix_app _ hx]
    · rw [if_neg hx, if_neg (by simp [hx, e])]
theorem infoKi : ∃ i, Try.prog.info? 89 = some i ∧ i.size ≠ 0 := by
  have h := infoKt
  cases e : Try.prog.info? 89 with
  | none => rw [e] at h; cases h
  | some i =>
    rw [e] at h
    refine ⟨i, rfl, ?_⟩
    have : i.size = 4 := by simpa using h
    omega
/-- The tour at block B, of type t, with what else is in it. -/
structure TrAt (B : Nat) (t : TypeId) (rest : List Value) (lo : Nat) (mb : List Nat) (w : World) : Prop where
  ex : ∃ (nv : Value) (ma : Option Addr) (mn mc : Nat), w.heap[B]? = some (.cells (nv :: .slice ma mn mc :: rest).toArray t (0, 0)) ∧ w.ownsRow lo 84 1 (.slice ma mn mc) mb.length (plV mb) ∧ ((nv = .map none ∧ mb = []) ∨ ∃ M, nv = .map (some M) ∧ lo ≤ M ∧ PmAt natVG w M (numF mb))
section
variable {B : Nat} {t : TypeId} {rest : List Value} {lo : Nat} {mb : List Nat} {w w' : World} {x0 x1 : Value}
theorem tr_0 (h : w.heap[B]? = some (.cells (x0 :: x1 :: rest).toArray t (0, 0))) : w.cell? ⟨B, 0, none⟩ = some x0 := by simp [World.cell?, h]
theorem tr_1 (h : w.heap[B]? = some (.cells (x0 :: x1 :: rest).toArray t (0, 0))) : w.cell? ⟨B, 1, none⟩ = some x1 := by simp [World.cell?, h]
theorem tr_f (h : w.heap[B]? = some (.cells (x0 :: x1 :: rest).toArray t (0, 0))) (i : Nat) : w.frozen? ⟨B, i, none⟩ = false := by simp [World.frozen?, h]
theorem tr_set0 (h : w.heap[B]? = some (.cells (x0 :: x1 :: rest).toArray t (0, 0))) (a : Value) : (w.setCell ⟨B, 0, none⟩ a).heap[B]? = some (.cells (a :: x1 :: rest).toArray t (0, 0)) := by
  simp [World.setCell, Array.getElem?_modify, h]
theorem tr_set1 (h : w.heap[B]? = some (.cells (x0 :: x1 :: rest).toArray t (0, 0))) (a : Value) : (w.setCell ⟨B, 1, none⟩ a).heap[B]? = some (.cells (x0 :: a :: rest).toArray t (0, 0)) := by
  simp [World.setCell, Array.getElem?_modify, h]
theorem TrAt.lt (h : TrAt B t rest lo mb w) : B < w.heap.size := by
  obtain ⟨_, _, _, _, h, _⟩ := h.ex
  exact (Array.getElem?_eq_some_iff.1 h).1
theorem TrAt.stays (h : TrAt B t rest lo mb w) (hb : Below w.heap.size w w') : TrAt B t rest lo mb w' := by
  obtain ⟨nv, ma, mn, mc, h1, h2, h3⟩ := h.ex
  refine ⟨nv, ma, mn, mc, (hb.block _ (Array.getElem?_eq_some_iff.1 h1).1).trans h1, g_row_below h2 hb, ?_⟩
  rcases h3 with h3 | ⟨M, e, hl, hm⟩
  · exact .inl h3
  · exact .inr ⟨M, e, hl, hm.same (hb.block _ hm.lt)⟩
/-- What a tour leaves alone: blocks of another type than its row's, but its own. -/
def KeepT (B : Nat) (w w' : World) : Prop := ∀ (x : Nat) (cs : Array Value) (t : TypeId) (fr : Nat × Nat), w.heap[x]? = some (.cells cs t fr) → t ≠ 84 → x ≠ B → w'.heap[x]? = w.heap[x]?
theorem KeepT.refl (B : Nat) (w : World) : KeepT B w w := fun _ _ _ _ _ _ _ => rfl
theorem KeepT.of (hb : Below w.heap.size w w') : KeepT B w w' := fun x _ _ _ h _ _ => hb.block x (Array.getElem?_eq_some_iff.1 h).1
theorem KeepT.trans {a b c : World} (h : KeepT B a b) (k : KeepT B b c) : KeepT B a c := fun x cs t fr hx ht hB => by
  have h1 := h x cs t fr hx ht hB
  exact (k x cs t fr (h1.trans hx) ht hB).trans h1
theorem KeepT.row {lo2 e sz : Nat} {v : Value} {n : Nat} {xs : List Value} (h : KeepT B w w') (hr : w.ownsRow lo2 e sz v n xs) (he : e ≠ 84) (hB : v.ownBlock ≠ some B) : w'.ownsRow lo2 e sz v n xs := by
  refine ⟨hr.1, ?_⟩
  rcases hr.2 with hn | ⟨g, cap, cur, rfl, hlo, hg, rest⟩
  · exact .inl hn
  · exact .inr ⟨g, cap, cur, rfl, hlo, by rw [h g _ _ _ hg he (fun e2 => hB (by rw [← e2]; rfl))]; exact hg, rest⟩
end
end Go.Proofs.Ytkdlakcmhdiojaa
