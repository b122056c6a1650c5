/- Several texts in one: Gmj Gml Gnu. -/
import Derived.Test.YtkdlakcmhdiojaaZqaz
import Derived.Test.YtkdlakcmhdiojaaZqah
/- The program's loom: a node is taken: what is kept, and what holds behind the knot. -/
namespace Go.Proofs.Ytkdlakcmhdiojaa
open Go.ChangeShapes Go.WideShapes Go.ChangeAt Go.RowKit Go.Deep Go.Maps
def ndsR (l : List Ev) (k : Nat) : List Nd := (realsTo l k).map (fun j => ndOf l j [])
def csR (l : List Ev) (mb : List Nat) (r k : Nat) : List (List Nat) := (realsTo l r).map (fun (j : Nat) => kidB l mb (j : Int) k)
/-- The loom at a place of the list, behind q nodes. -/
structure LmP (w0 : World) (B T B1 B2 K : Nat) (lv : Value) (l : List Ev) (q k : Nat) (w : World) : Prop where
  ex : ∃ (mb : List Nat) (nv mv rv : Value) (kvs : List Value), mb.length = cntR l k ∧ LmS w0 B T B1 B2 K lv q q (gat l (fTie l) Ti.start k) (knF l k mb) mb (ndsR l k) (csR l mb k k) (kidB l mb (-1) k) nv mv rv kvs w
/-- The knot of the node at k, ahead of its meeting. -/
def KnOk (w0 : World) (l : List Ev) (k : Nat) (mb : List Nat) (b : Nat) (w : World) : Prop := (kindAt l k = 6 ∧ b = blk mb (numI l k) ∧ b ∈ mb) ∨ (kindAt l k ≠ 6 ∧ b ∉ mb ∧ w0.heap.size ≤ b ∧ w.heap[b]? = some (.cells (knV (ndOf l k []) (.slice none 0 0)) 89 (0, 0)))
section
variable {w0 w w' : World} {B T B1 B2 K : Nat} {lv : Value} {l : List Ev} {q k : Nat} {mb : List Nat} {nv mv rv : Value} {kvs : List Value}
theorem LmP.gap (h : LmP w0 B T B1 B2 K lv l q k w) {j : Nat} (hkj : k ≤ j) (hno : ∀ i, k ≤ i → i < j → nodB l i = false) : LmP w0 B T B1 B2 K lv l q j w := by
  obtain ⟨mb, nv, mv, rv, kvs, h1, h2⟩ := h.ex
  obtain ⟨g1, g2, g3, g4⟩ := gap_same (l := l) (j - k) k (fun i h3 h4 => hno i h3 (by omega))
  rw [show k + (j - k) = j by omega] at g1 g2 g3 g4
  refine ⟨mb, nv, mv, rv, kvs, ?_, ?_⟩
  · rw [h1]
    unfold cntR
    rw [g2]
  · have e1 : ndsR l j = ndsR l k := by unfold ndsR; rw [g2]
    have e2 : csR l mb j j = csR l mb k k := by
      unfold csR
      rw [g2]
      refine List.map_congr_left (fun i _ => ?_)
      unfold kidB
      rw [g1]
    have e3 : kidB l mb (-1) j = kidB l mb (-1) k := by unfold kidB; rw [g1]
    rw [g4, g3, e1, e2, e3]
    exact h2
theorem LmP.stays (h : LmP w0 B T B1 B2 K lv l q k w) (hb : Below w.heap.size w w') : LmP w0 B T B1 B2 K lv l q k w' := by
  obtain ⟨mb, nv, mv, rv, kvs, h1, h2⟩ := h.ex
  exact ⟨mb, nv, mv, rv, kvs, h1, h2.stays hb⟩
/-- The knot of the node at k. -/
theorem knotOf_any (hw : whole l = true) {t : Ti} (ht : TiAt l (k + 1) t) {p : Nat} (hl : l.length ≤ 1048576) (hS : SlE w0 lv l) {e : Ev} (he : l[k]? = some e) (hmb : mb.length = cntR l k) {ns : List Nd} {cs : List (List Nat)} {rs : List Nat} (h : LmS w0 B T B1 B2 K lv q p t (knF l k mb) mb ns cs rs nv mv rv kvs w) :
    Calls Try.prog 51 #[.pointer (some ⟨B, 0, none⟩), .int .i64 (k : Int)] w fun r w' => ∃ b, r = .returned (.pointer (some ⟨b, 0, none⟩)) ∧ KnOk w0 l k mb b w' ∧ Below w.heap.size w w' := by
  have hk := (List.getElem?_eq_some_iff.1 he).1
  obtain ⟨g1, _, g3⟩ := whole_parts hw
  by_cases h6 : e.kind = 6
  · obtain ⟨m, hm, hmk, hmr, hnum⟩ := alias_to g1 he h6 (g3 k hk)
    have hk6 := (kind_at he).trans h6
    have hmn : nodB l m = true := by unfold realB at hmr; rw [Bool.and_eq_true] at hmr; exact hmr.1
    obtain ⟨em, hem, _⟩ := nodB_lt hmn
    have hm6 : em.kind ≠ 6 := fun e2 => by
      rw [real_node hem, e2] at hmr
      simp at hmr
    have hd : t.defs (k : Int) = some m := by
      rw [ht.defs, if_pos ⟨by omega, by omega, by rw [Int.toNat_natCast]; exact hk6, by rw [Int.toNat_natCast, hm]; omega⟩, Int.toNat_natCast, hm]
      rfl
    have hf := knF_at (mb := mb) hmk hmn
    rw [num_real hem hm6] at hf
    have hcl := cnt_lt hmr hmk
    refine (knotOf_alias h hS hl he h6 hd (by omega) hf).mono ?_
    rintro r w' ⟨rfl, hb⟩
    exact ⟨_, rfl, .inl ⟨hk6, by rw [hnum], blk_mem (by omega)⟩, hb⟩
  · have hk6 : kindAt l k ≠ 6 := by rw [kind_at he]; exact h6
    refine (knotOf_new h hS hl he h6).mono ?_
    rintro r w' ⟨b, rfl, hlb, hbb, hb⟩
    refine ⟨b, rfl, .inr ⟨hk6, fun hm => ?_, Nat.le_trans h.ties.below.size hlb, hbb⟩, hb⟩
    obtain ⟨m, hm⟩ := List.mem_iff_getElem?.1 hm
    obtain ⟨_, _, _, _, _, _, h7, _⟩ := h.knotAt hm
    have := (Array.getElem?_eq_some_iff.1 h7).1
    omega
theorem keep_frx {nv' mv' : Value} {t : Ti} {f : Int → Option Nat} {p : Nat} {ns : List Nd} {cs : List (List Nat)} {rs : List Nat} (h : LmS w0 B T B1 B2 K lv q p t f mb ns cs rs nv mv rv kvs w) (hF : FrX B nv mv nv' mv' w w') : KeepS w w' := fun x c fr e => by
  rw [hF.blk x (Array.getElem?_eq_some_iff.1 e).1 (cells_ne e h.tour.at_ (by decide)) (row_apart h.tour.row e (by decide)) (fun e2 => by
    obtain ⟨_, _, e3⟩ := h.mapM e2
    exact map_ne e e3 rfl)]
  exact e
/-- The loom behind the meeting: the knot at k is there, but not yet among its kin. -/
structure LmM (w0 : World) (B T B1 B2 K : Nat) (lv : Value) (l : List Ev) (q k b : Nat) (w : World) : Prop where
  ex : ∃ (mb : List Nat) (nv mv rv : Value) (kvs : List Value), mb.length = cntR l (k + 1) ∧ b = blk mb (numI l k) ∧ LmS w0 B T B1 B2 K lv q q (gat l (fTie l) Ti.start (k + 1)) (knF l (k + 1) mb) mb (ndsR l (k + 1)) (csR l mb (k + 1) k) (kidB l mb (-1) k) nv mv rv kvs w
theorem meet_any (hw : whole l = true) (hl : l.length ≤ 1048576) (hk : k < l.length) (hn : nodB l k = true) {b : Nat} (hmb : mb.length = cntR l k) (h : LmS w0 B T B1 B2 K lv q q (gat l (fTie l) Ti.start (k + 1)) (putFn (knF l k mb) (k : Int) b) mb (ndsR l k) (csR l mb k k) (kidB l mb (-1) k) nv mv rv kvs w) (hb : KnOk w0 l k mb b w) :
    Calls Try.prog 52 #[.pointer (some ⟨B, 0, none⟩), .pointer (some ⟨b, 0, none⟩)] w fun e w' => (∃ x, e = .returned x) ∧ LmM w0 B T B1 B2 K lv l q k b w' ∧ KeepS w w' := by
  have hL : ∀ x ∈ mb, Live w x := fun x hx => by
    obtain ⟨m, hm⟩ := List.mem_iff_getElem?.1 hx
    obtain ⟨_, _, _, _, _, _, h7, _⟩ := h.knotAt hm
    exact ⟨_, _, h7⟩
  obtain ⟨e, he, hne⟩ := nodB_lt hn
  have hml : mb.length ≤ 1048576 := by have := cntR_le l k; omega
  rcases hb with ⟨h6, hbb, hm⟩ | ⟨h6, hm, hlb, hbk⟩
  · have hr : realB l k = false := by unfold realB; rw [h6, hn]; rfl
    refine (meet_old B 79 _ w0.heap.size mb b w h.tour.tr hL hm).mono ?_
    rintro r w' ⟨rfl, hww⟩
    obtain rfl := hww.symm
    refine ⟨⟨_, rfl⟩, ⟨mb, nv, mv, rv, kvs, by rw [cntR_no hr]; exact hmb, hbb, ?_⟩, fun _ _ _ hx => hx⟩
    have e1 : ndsR l (k + 1) = ndsR l k := by unfold ndsR; rw [realsTo_no hr]
    have e2 : csR l mb (k + 1) k = csR l mb k k := by unfold csR; rw [realsTo_no hr]
    rw [e1, e2, ← knF_put (mb := mb) hn, ← hbb]
    exact h
  · have hr : realB l k = true := by unfold realB; rw [hn, decide_eq_true h6]; rfl
    have h6e : e.kind ≠ 6 := by rw [← kind_at he]; exact h6
    have hnum : numI l k = (mb.length : Int) := by rw [num_real he h6e, hmb]
    refine (meet_newX B 79 _ w0.heap.size mb b w nv mv h.tour hL ⟨_, _, hbk⟩ hm (by decide) h.low.1 hml).mono ?_
    rintro r w' ⟨rfl, nv', mv', hT, hbel, hF⟩
    have h2 := h.met hbk hlb hm hT hbel hF
    refine ⟨⟨_, rfl⟩, ⟨mb ++ [b], nv', mv', rv, kvs ++ [.slice none 0 0], by rw [cntR_yes hr, List.length_append, hmb]; rfl, by rw [hnum, blk_new], ?_⟩, keep_frx h hF⟩
    have e1 : ndsR l (k + 1) = ndsR l k ++ [ndOf l k []] := by unfold ndsR; rw [realsTo_yes hr, List.map_append]; rfl
    have e2 : csR l (mb ++ [b]) (k + 1) k = csR l mb k k ++ [[]] := by
      unfold csR
      rw [realsTo_yes hr, List.map_append]
      congr 1
      · exact List.map_congr_left (fun j _ => kidB_app hw hmb b _)
      · rw [List.map_singleton]
        unfold kidB
        rw [kidsTo_early (by omega) (Nat.le_succ _)]
        rfl
    have e3 : knF l (k + 1) (mb ++ [b]) = putFn (knF l k mb) (k : Int) b := by
      rw [← knF_put (mb := mb ++ [b]) hn, knF_app hw hmb, hnum, blk_new]
    rw [e1, e2, e3, kidB_app hw hmb]
    exact h2
/-- A root. -/
theorem LmM.root {b : Nat} (hk : k < l.length) (hl : l.length ≤ 1048576) (hn : nodB l k = true) (hu : upG l k 0 = -1) (h : LmM w0 B T B1 B2 K lv l q k b w) : ∃ rv a n c w5, w.cell? ⟨B, 4, none⟩ = some rv ∧ (Builtin.append_ #[75, 75] 75 #[rv, .slice (some ⟨w.heap.size, 0, none⟩) 1 1]).run Try.prog (w.alloc (.cells #[.pointer (some ⟨b, 0, none⟩)] 84)) = .ok (.slice a n c) w5 ∧ w5.cell? ⟨B, 4, none⟩ = some rv ∧ w5.frozen? ⟨B, 4, none⟩ = false ∧
    LmP w0 B T B1 B2 K lv l q (k + 1) (w5.setCell ⟨B, 4, none⟩ (.slice a n c)) ∧ KeepS w (w5.setCell ⟨B, 4, none⟩ (.slice a n c)) ∧ B < w.heap.size := by
  obtain ⟨mb, nv, mv, rv, kvs, h1, hb, h2⟩ := h.ex
  obtain ⟨a, n, c, w5, r1, r2, r3, r4, r5⟩ := h2.root b (by unfold kidB; rw [List.length_map]; have := kidsTo_len l (-1) k; omega)
  refine ⟨rv, a, n, c, w5, h2.cells.2.2.2.2, r1, r2, r3, ⟨mb, nv, mv, .slice a n c, kvs, h1, ?_⟩, r5, (Array.getElem?_eq_some_iff.1 h2.tour.at_).1⟩
  have hi : inAt l (-1) k = true := by unfold inAt; rw [hn, hu]; rfl
  have e1 : kidB l mb (-1) (k + 1) = kidB l mb (-1) k ++ [b] := by unfold kidB; rw [kidsTo_yes hi, List.map_append, hb]; rfl
  have e2 : csR l mb (k + 1) (k + 1) = csR l mb (k + 1) k := by
    unfold csR
    refine List.map_congr_left (fun j _ => ?_)
    unfold kidB
    rw [kidsTo_no]
    unfold inAt
    rw [hu, decide_eq_false (by omega), Bool.and_false]
  rw [e1, e2]
  exact r4
theorem up_col (hk : k < l.length) (hu : upG l k 0 ≠ -1) : ∃ u : Nat, upG l k 0 = (u : Int) ∧ u < k ∧ realB l u = true ∧ nodB l u = true ∧ numI l u = (cntR l u : Int) := by
  rw [up_head l k (by omega)] at hu ⊢
  cases hs : stk l k with
  | nil => rw [hs] at hu; exact absurd rfl hu
  | cons a r =>
    obtain ⟨e, he, hc⟩ := stk_is l k a (by rw [hs]; exact List.mem_cons_self)
    have hnd := col_node hc
    have h6 : e.kind ≠ 6 := by unfold colE at hc; simp at hc; omega
    exact ⟨a, rfl, stk_lt l k a (by rw [hs]; exact List.mem_cons_self), by rw [real_node he, hnd, decide_eq_true h6]; rfl, by rw [nodB_some he]; exact hnd, num_real he h6⟩
/-- A kid. -/
theorem LmM.kid {b u : Nat} (hk : k < l.length) (hl : l.length ≤ 1048576) (hn : nodB l k = true) (hu : upG l k 0 = (u : Int)) (huk : u < k) (hur : realB l u = true) (hun : nodB l u = true) (hunm : numI l u = (cntR l u : Int)) (h : LmM w0 B T B1 B2 K lv l q k b w) : ∃ bu kv a n c w5, w.cell? ⟨B, 3, none⟩ = some (.map (some K)) ∧ (∀ x : World, x.heap = w.heap → (Instr.lookup 73 (.map (some K)) (.int .i64 (u : Int)) false).run Try.prog x = .ok (.pointer (some ⟨bu, 0, none⟩)) x) ∧ w.cell? ⟨bu, 3, none⟩ = some kv ∧ (Builtin.append_ #[75, 75] 75 #[kv, .slice (some ⟨w.heap.size, 0, none⟩) 1 1]).run Try.prog (w.alloc (.cells #[.pointer (some ⟨b, 0, none⟩)] 84)) = .ok (.slice a n c) w5 ∧ w5.cell? ⟨bu, 3, none⟩ = some kv ∧ w5.frozen? ⟨bu, 3, none⟩ = false ∧
    LmP w0 B T B1 B2 K lv l q (k + 1) (w5.setCell ⟨bu, 3, none⟩ (.slice a n c)) ∧ KeepS w (w5.setCell ⟨bu, 3, none⟩ (.slice a n c)) ∧ bu < w.heap.size := by
  obtain ⟨mb, nv, mv, rv, kvs, h1, hb, h2⟩ := h.ex
  have hcl := cnt_lt hur (show u < k + 1 by omega)
  have hmb := blk_at (Ps := mb) (m := cntR l u) (by omega)
  have hra := reals_at hur (k + 1 - (u + 1))
  rw [show u + 1 + (k + 1 - (u + 1)) = k + 1 by omega] at hra
  obtain ⟨n0, kv, c0, e1, e2, e3, e4, e5⟩ := h2.knotAt hmb
  have hc0 : c0 = kidB l mb (u : Int) k := by
    unfold csR at e3
    rw [List.getElem?_map, hra] at e3
    exact (Option.some.inj e3).symm
  subst hc0
  obtain ⟨a, nn, cc, w5, r1, r2, r3, r4, r5⟩ := h2.kid b hmb e1 e2 e3 (by unfold kidB; rw [List.length_map]; have := kidsTo_len l (u : Int) k; omega)
  obtain ⟨nK, _, hMK⟩ := h2.kn
  refine ⟨blk mb (cntR l u : Int), kv, a, nn, cc, w5, h2.cells.2.2.2.1, fun x hx => ?_, (lk_3 e4).2.2.2, r1, r2, r3, ⟨mb, nv, mv, rv, kvs.set (cntR l u) (.slice a nn cc), h1, ?_⟩, r5, (Array.getElem?_eq_some_iff.1 e4).1⟩
  · have hf := knF_at (mb := mb) (show u < k + 1 by omega) hun
    rw [hunm] at hf
    exact (hMK.same (w' := x) (by rw [hx])).look_f dkeyed Try.underlying73 (zeroKn x) (dkey_mk (WalkArith.wf_i64 (by omega))) hf
  · have hi : inAt l (u : Int) k = true := by unfold inAt; rw [hn, hu]; simp
    have g1 : kidB l mb (-1) (k + 1) = kidB l mb (-1) k := by
      unfold kidB
      rw [kidsTo_no]
      unfold inAt
      rw [hu, decide_eq_false (by omega), Bool.and_false]
    have g2 : (csR l mb (k + 1) k).set (cntR l u) (kidB l mb (u : Int) k ++ [b]) = csR l mb (k + 1) (k + 1) := by
      apply List.ext_getElem?
      intro i
      unfold csR
      rw [List.getElem?_set, List.getElem?_map, List.getElem?_map, List.length_map]
      by_cases e : cntR l u = i
      · subst e
        rw [if_pos rfl, if_pos (List.getElem?_eq_some_iff.1 hra).1, hra]
        simp only [Option.map_some]
        unfold kidB
        rw [kidsTo_yes hi, List.map_append, hb]
        rfl
      · rw [if_neg e]
        cases hj : (realsTo l (k + 1))[i]? with
        | none => rfl
        | some j =>
          have hju : j ≠ u := fun e7 => by
            subst e7
            have hnd : (realsTo l (k + 1)).Nodup := (List.nodup_range).filter _
            exact e ((List.getElem?_inj (List.getElem?_eq_some_iff.1 hra).1 hnd).1 (hra.trans hj.symm))
          simp only [Option.map_some]
          unfold kidB
          rw [kidsTo_no]
          unfold inAt
          rw [hu, decide_eq_false (by omega), Bool.and_false]
    rw [g1, ← g2]
    exact r4
end
end Go.Proofs.Ytkdlakcmhdiojaa
/- The program's loom takes a node. -/
namespace Go.Proofs.Ytkdlakcmhdiojaa
open Go.ChangeShapes Go.WideShapes Go.ChangeAt Go.RowKit Go.Deep Go.Maps
theorem sp_at {w : World} {b : Nat} {x0 x1 x2 : Value} (h : w.heap[b]? = some (.cells #[x0, x1, x2] 83 (0, 0))) : w.cell? ⟨b, 0, none⟩ = some x0 ∧ w.cell? ⟨b, 1, none⟩ = some x1 ∧ w.cell? ⟨b, 2, none⟩ = some x2 := by simp [World.cell?, h]
theorem keep_mapS {w w' : World} {B : Nat} (hg : w.grownBy w' (some B)) (hm : ∃ es c, w.heap[B]? = some (.map es c)) : KeepS w w' := by
  intro k cs fr hk
  rw [hg.block k (Array.getElem?_eq_some_iff.1 hk).1 (fun e => by
    injection e with e
    subst e
    obtain ⟨es, clock, he⟩ := hm
    rw [he] at hk
    cases hk), hk]
/-- What the loom is, ahead of the meeting: the knot is put. -/
structure LmQ (w0 : World) (B T B1 B2 K : Nat) (lv : Value) (l : List Ev) (q p k : Nat) (w : World) : Prop where
  ex : ∃ (mb : List Nat) (nv mv rv : Value) (kvs : List Value), mb.length = cntR l k ∧ LmS w0 B T B1 B2 K lv q p (gat l (fTie l) Ti.start (k + 1)) (knF l k mb) mb (ndsR l k) (csR l mb k k) (kidB l mb (-1) k) nv mv rv kvs w
structure LmK (w0 : World) (B T B1 B2 K : Nat) (lv : Value) (l : List Ev) (q k b : Nat) (w : World) : Prop where
  ex : ∃ (mb : List Nat) (nv mv rv : Value) (kvs : List Value), mb.length = cntR l k ∧ LmS w0 B T B1 B2 K lv (q + 1) q (gat l (fTie l) Ti.start (k + 1)) (knF l k mb) mb (ndsR l k) (csR l mb k k) (kidB l mb (-1) k) nv mv rv kvs w ∧ KnOk w0 l k mb b w
section
variable {w0 w w' : World} {B T B1 B2 K : Nat} {lv : Value} {l : List Ev} {q k b : Nat}
theorem KnOk.later {mb : List Nat} (h : KnOk w0 l k mb b w) (hb : Below w.heap.size w w') : KnOk w0 l k mb b w' := by
  rcases h with h | ⟨h1, h2, h3, h4⟩
  · exact .inl h
  · exact .inr ⟨h1, h2, h3, (hb.block b (Array.getElem?_eq_some_iff.1 h4).1).trans h4⟩
theorem LmP.tie (h : LmP w0 B T B1 B2 K lv l q k w) (hS : SlE w0 lv l) (hl : totE l + l.length ≤ 1048576) (hn : nodB l k = true) (hq : q ≤ 1048576) :
    Calls Try.prog 50 #[.pointer (some ⟨T, 0, none⟩), (fin l k).val] w fun r w' => r = .returned (.tuple #[]) ∧ LmQ w0 B T B1 B2 K lv l (q + 1) q k w' ∧ KeepS w w' := by
  obtain ⟨mb, nv, mv, rv, kvs, h1, h2⟩ := h.ex
  obtain ⟨e, he, _⟩ := nodB_lt hn
  have he' : l[(fin l k).at_]? = some e := he
  refine (ttake_any T B1 B2 lv w0 w _ q l (fin l k) e hS hl he' h2.ties hq).mono ?_
  rintro r w' ⟨rfl, hT, hK⟩
  have hF : (gat l (fTie l) Ti.start k).take (fin l k) e = gat l (fTie l) Ti.start (k + 1) := by
    rw [gat_yes hn]
    unfold fTie
    rw [he']
  rw [hF] at hT
  exact ⟨rfl, ⟨mb, nv, mv, rv, kvs, h1, h2.tie hT hK⟩, hK.toS h2.ties⟩
theorem LmQ.knot (hw : whole l = true) (h : LmQ w0 B T B1 B2 K lv l (q + 1) q k w) (hS : SlE w0 lv l) (hl : l.length ≤ 1048576) (hk : k < l.length) :
    Calls Try.prog 51 #[.pointer (some ⟨B, 0, none⟩), .int .i64 (k : Int)] w fun r w' => ∃ b, r = .returned (.pointer (some ⟨b, 0, none⟩)) ∧ LmK w0 B T B1 B2 K lv l q k b w' ∧ Below w.heap.size w w' := by
  obtain ⟨mb, nv, mv, rv, kvs, h1, h2⟩ := h.ex
  refine (knotOf_any hw (ti_gat (whole_parts hw).1 (k + 1) hk) hl hS (List.getElem?_eq_getElem hk) h1 h2).mono ?_
  rintro r w' ⟨b, rfl, h3, hb⟩
  exact ⟨b, rfl, ⟨mb, nv, mv, rv, kvs, h1, h2.stays hb, h3⟩, hb⟩
theorem LmK.stays (h : LmK w0 B T B1 B2 K lv l q k b w) (hb : Below w.heap.size w w') : LmK w0 B T B1 B2 K lv l q k b w' := by
  obtain ⟨mb, nv, mv, rv, kvs, h1, h2, h3⟩ := h.ex
  exact ⟨mb, nv, mv, rv, kvs, h1, h2.stays hb, h3.later hb⟩
theorem LmM.drewM (h : LmM w0 B T B1 B2 K lv l q k b w) : LmM w0 B T B1 B2 K lv l q k b w.drew := by
  obtain ⟨mb, nv, mv, rv, kvs, h1, h2, h3⟩ := h.ex
  exact ⟨mb, nv, mv, rv, kvs, h1, h2, h3.stays ((Below.refl _ w).drew)⟩
/-- The put and the meeting. -/
theorem LmK.put (hw : whole l = true) (h : LmK w0 B T B1 B2 K lv l q k b w) (hl : l.length ≤ 1048576) (hk : k < l.length) (hn : nodB l k = true) (hq : q ≤ 1048576) :
    ∃ w', (Instr.mapUpdate 73 (.map (some K)) (.int .i64 (k : Int)) (.pointer (some ⟨b, 0, none⟩))).run Try.prog w = .ok () w' ∧ KeepS w w' ∧ (∀ x, Below w'.heap.size w' x → Calls Try.prog 52 #[.pointer (some ⟨B, 0, none⟩), .pointer (some ⟨b, 0, none⟩)] x fun e w'' => (∃ v, e = .returned v) ∧ LmM w0 B T B1 B2 K lv l (q + 1) k b w'' ∧ KeepS x w'') := by
  obtain ⟨mb, nv, mv, rv, kvs, h1, h2, h3⟩ := h.ex
  obtain ⟨w', r1, r2, r3⟩ := h2.put k b (by omega) (by omega)
  refine ⟨w', r1, keep_mapS r3 h2.mapK, fun x hx => ?_⟩
  have h3' : KnOk w0 l k mb b w' := by
    rcases h3 with h4 | ⟨h4, h5, h6, h7⟩
    · exact .inl h4
    · obtain ⟨_, _, mK⟩ := h2.mapK
      exact .inr ⟨h4, h5, h6, (r3.block b (Array.getElem?_eq_some_iff.1 h7).1 (fun e => map_ne h7 mK (Option.some.inj e))).trans h7⟩
  exact meet_any hw hl hk hn h1 (r2.stays hx) (h3'.later hx)
end
set_option maxRecDepth 100000 in
set_option maxHeartbeats 8000000 in
theorem loomTake_root {w0 w : World} {B T B1 B2 K : Nat} {lv : Value} {l : List Ev} {q k : Nat} (hw : whole l = true) (h : LmP w0 B T B1 B2 K lv l q k w) (hS : SlE w0 lv l) (hl : totE l + l.length ≤ 1048576) (hk : k < l.length) (hn : nodB l k = true) (hq : q ≤ 1048576) (hu : upG l k 0 = -1) :
    Calls Try.prog 29 #[.pointer (some ⟨B, 0, none⟩), (fin l k).val] w fun r w' => r = .returned (.tuple #[]) ∧ LmP w0 B T B1 B2 K lv l (q + 1) (k + 1) w' ∧ KeepS w w' := by
  have hll : l.length ≤ 1048576 := by omega
  obtain ⟨W, hW⟩ : ∃ W, w.alloc (.cells #[.int .i64 (k : Int), .int .i64 (endN l k), .int .i64 (-1)] 83) = W := ⟨_, rfl⟩
  have hBW : Below w.heap.size w W := by rw [← hW]; exact al_belowG w _
  have hWE : W.heap[w.heap.size]? = some (.cells #[.int .i64 (k : Int), .int .i64 (endN l k), .int .i64 (-1)] 83 (0, 0)) := by rw [← hW]; exact heap_alloc_new w _
  have hval : (fin l k).val = .agg #[.int .i64 (k : Int), .int .i64 (endN l k), .int .i64 (-1)] := by
    show Value.agg #[.int .i64 (k : Int), .int .i64 (endN l k), .int .i64 (upG l k 0)] = _
    rw [hu]
  have hPW := h.stays hBW
  have hPD := hPW.stays ((Below.refl _ W).drew)
  have c1 := hPD.tie hS hl hn hq
  rw [hval] at c1 ⊢
  obtain ⟨mb0, nv0, mv0, rv0, kvs0, _, hm0⟩ := hPW.ex
  obtain ⟨_, _, x2, _, _⟩ := hm0.cells
  obtain ⟨s0, s1, s2⟩ := sp_at hWE
  have HC1 := hidG c1
  have HKW : Hid (KeepS w W.drew) := KeepS.of hBW.drew
  have HWE := hidG (show W.drew.heap[w.heap.size]? = some (.cells #[.int .i64 (k : Int), .int .i64 (endN l k), .int .i64 (-1)] 83 (0, 0)) from hWE)
  have HWW := hidG hW
  have HW1 := hidG hw
  have HSS := hidG hS
  have HLK := hidG (And.intro hll hk)
  have HN := hidG (And.intro hn (And.intro hq hu))
  have hkI : (k : Int) ≤ 1048576 := by omega
  clear hPW hPD c1 hm0 hW hBW hWE h hw hS hl hk hn hq hu hll hval
  go_enter Try.func29, Try.ntmps29
  go_wp2_with fail
  rw [HWW.out]
  go_region_with ((go_at_call 50; refine HC1.out.mono ?_; rintro e w1 ⟨rfl, h1, hk1⟩))
  all_goals (
    have hs1 := hk1 _ _ _ HWE.out
    have HS1 := hidG hs1
    have HK1 := hidG (HKW.out.trans hk1)
    have c2 := h1.knot HW1.out HSS.out HLK.out.1 HLK.out.2
    obtain ⟨t0, t1, t2⟩ := sp_at hs1
    clear hs1 h1 hk1 HC1 HKW HWE HWW x2
    go_wp2_with fail
    refine c2.mono ?_
    rintro e w2 ⟨b, rfl, h2, hb2⟩
    have hs2 := (hb2.block _ (Array.getElem?_eq_some_iff.1 HS1.out).1).trans HS1.out
    have HK2 := hidG (HK1.out.trans (KeepS.of hb2))
    have HS2 := hidG (show w2.drew.heap[w.heap.size]? = _ from hs2)
    obtain ⟨u0, u1, u2⟩ := sp_at hs2
    obtain ⟨w3, hup, hk3, hmt⟩ := (h2.stays ((Below.refl _ w2).drew)).put HW1.out HLK.out.1 HLK.out.2 HN.out.1 HN.out.2.1
    obtain ⟨mb2, nv2, mv2, rv2, kvs2, _, hm2, _⟩ := h2.ex
    obtain ⟨_, _, _, x3, _⟩ := hm2.cells
    have hs3 := hk3 _ _ _ HS2.out
    have HS3 := hidG hs3
    have HK3 := hidG ((HK2.out.trans (KeepS.of ((Below.refl _ w2).drew))).trans hk3)
    have c4 := hmt w3 (Below.refl _ _)
    clear c2 h2 hb2 hs2 hm2 hs3 hk3 hmt HK2 HS2 HK1 HS1 t0 t1 t2
    go_wp2_with fail
    go_region
    clear hup u0 u1 u2 x3
    go_wp2_with fail
    refine c4.mono ?_
    rintro e w4 ⟨⟨v, rfl⟩, h4, hk4⟩
    have hs4 := hk4 _ _ _ HS3.out
    have HK4 := hidG (HK3.out.trans hk4)
    obtain ⟨u0, u1, u2⟩ := sp_at hs4
    obtain ⟨rv, a, n, c, w5, p1, hrun5, p5, f5, hP, hkP, hB⟩ := h4.root HLK.out.2 HLK.out.1 HN.out.1 HN.out.2.2
    have HO := hidG (And.intro hP (HK4.out.trans hkP))
    clear c4 hs4 hk4 h4 hP hkP
    go_wp2_with (at_builtin; refine append_run rfl _ _ 75 rfl _ _ rfl rfl _ w5 hrun5 ?_)
    try simp only [Exit.inBlock, Exit.then]
    refine bodyPost_ret (results_none rfl _ _ _) rfl ?_
    exact ⟨rfl, HO.out⟩)
set_option maxRecDepth 100000 in
set_option maxHeartbeats 8000000 in
theorem loomTake_kid {w0 w : World} {B T B1 B2 K : Nat} {lv : Value} {l : List Ev} {q k u : Nat} (hw : whole l = true) (h : LmP w0 B T B1 B2 K lv l q k w) (hS : SlE w0 lv l) (hl : totE l + l.length ≤ 1048576) (hk : k < l.length) (hn : nodB l k = true) (hq : q ≤ 1048576) (hu : upG l k 0 = (u : Int)) (huk : u < k) (hur : realB l u = true) (hun : nodB l u = true) (hunm : numI l u = (cntR l u : Int)) :
    Calls Try.prog 29 #[.pointer (some ⟨B, 0, none⟩), (fin l k).val] w fun r w' => r = .returned (.tuple #[]) ∧ LmP w0 B T B1 B2 K lv l (q + 1) (k + 1) w' ∧ KeepS w w' := by
  have hll : l.length ≤ 1048576 := by omega
  obtain ⟨W, hW⟩ : ∃ W, w.alloc (.cells #[.int .i64 (k : Int), .int .i64 (endN l k), .int .i64 (u : Int)] 83) = W := ⟨_, rfl⟩
  have hBW : Below w.heap.size w W := by rw [← hW]; exact al_belowG w _
  have hWE : W.heap[w.heap.size]? = some (.cells #[.int .i64 (k : Int), .int .i64 (endN l k), .int .i64 (u : Int)] 83 (0, 0)) := by rw [← hW]; exact heap_alloc_new w _
  have hval : (fin l k).val = .agg #[.int .i64 (k : Int), .int .i64 (endN l k), .int .i64 (u : Int)] := by
    show Value.agg #[.int .i64 (k : Int), .int .i64 (endN l k), .int .i64 (upG l k 0)] = _
    rw [hu]
  have hPW := h.stays hBW
  have hPD := hPW.stays ((Below.refl _ W).drew)
  have c1 := hPD.tie hS hl hn hq
  rw [hval] at c1 ⊢
  obtain ⟨mb0, nv0, mv0, rv0, kvs0, _, hm0⟩ := hPW.ex
  obtain ⟨_, _, x2, _, _⟩ := hm0.cells
  obtain ⟨s0, s1, s2⟩ := sp_at hWE
  have HC1 := hidG c1
  have HKW : Hid (KeepS w W.drew) := KeepS.of hBW.drew
  have HWE := hidG (show W.drew.heap[w.heap.size]? = some (.cells #[.int .i64 (k : Int), .int .i64 (endN l k), .int .i64 (u : Int)] 83 (0, 0)) from hWE)
  have HWW := hidG hW
  have HW1 := hidG hw
  have HSS := hidG hS
  have HLK := hidG (And.intro hll hk)
  have HN := hidG (And.intro hn (And.intro hq hu))
  have HU := hidG (And.intro huk (And.intro hur (And.intro hun hunm)))
  have huI : (u : Int) ≤ 1048576 := by omega
  have hu0 : ((u : Int) == -1) = false := by rw [beq_eq_false_iff_ne]; omega
  have hkI : (k : Int) ≤ 1048576 := by omega
  clear huk hur hun hunm
  clear hPW hPD c1 hm0 hW hBW hWE h hw hS hl hk hn hq hu hll hval
  go_enter Try.func29, Try.ntmps29
  go_wp2_with fail
  rw [HWW.out]
  go_region_with ((go_at_call 50; refine HC1.out.mono ?_; rintro e w1 ⟨rfl, h1, hk1⟩))
  all_goals (
    have hs1 := hk1 _ _ _ HWE.out
    have HS1 := hidG hs1
    have HK1 := hidG (HKW.out.trans hk1)
    have c2 := h1.knot HW1.out HSS.out HLK.out.1 HLK.out.2
    obtain ⟨t0, t1, t2⟩ := sp_at hs1
    clear hs1 h1 hk1 HC1 HKW HWE HWW x2
    go_wp2_with fail
    refine c2.mono ?_
    rintro e w2 ⟨b, rfl, h2, hb2⟩
    have hs2 := (hb2.block _ (Array.getElem?_eq_some_iff.1 HS1.out).1).trans HS1.out
    have HK2 := hidG (HK1.out.trans (KeepS.of hb2))
    have HS2 := hidG (show w2.drew.heap[w.heap.size]? = _ from hs2)
    obtain ⟨u0, u1, u2⟩ := sp_at hs2
    obtain ⟨w3, hup, hk3, hmt⟩ := (h2.stays ((Below.refl _ w2).drew)).put HW1.out HLK.out.1 HLK.out.2 HN.out.1 HN.out.2.1
    obtain ⟨mb2, nv2, mv2, rv2, kvs2, _, hm2, _⟩ := h2.ex
    obtain ⟨_, _, _, x3, _⟩ := hm2.cells
    have hs3 := hk3 _ _ _ HS2.out
    have HS3 := hidG hs3
    have HK3 := hidG ((HK2.out.trans (KeepS.of ((Below.refl _ w2).drew))).trans hk3)
    have c4 := hmt w3 (Below.refl _ _)
    clear c2 h2 hb2 hs2 hm2 hs3 hk3 hmt HK2 HS2 HK1 HS1 t0 t1 t2
    go_wp2_with fail
    go_region
    clear hup u0 u1 u2 x3
    go_wp2_with fail
    refine c4.mono ?_
    rintro e w4 ⟨⟨v, rfl⟩, h4, hk4⟩
    have hs4 := hk4 _ _ _ HS3.out
    have HK4 := hidG (HK3.out.trans hk4)
    obtain ⟨u0, u1, u2⟩ := sp_at hs4
    obtain ⟨bu, kv, a, n, c, w5, p3, hlk, p1, hrun5, p5, f5, hP, hkP, hB⟩ := h4.drewM.kid HLK.out.2 HLK.out.1 HN.out.1 HN.out.2.2 HU.out.1 HU.out.2.1 HU.out.2.2.1 HU.out.2.2.2
    have HO := hidG (And.intro hP ((HK4.out.trans (KeepS.of ((Below.refl _ w4).drew))).trans hkP))
    have p4 : w4.cell? ⟨B, 3, none⟩ = some (.map (some K)) := p3
    have r1 := hlk w4 rfl
    have r2 := hlk w4.drew rfl
    clear c4 hs4 hk4 h4 hP hkP hlk
    go_wp2_with fail
    go_region
    all_goals (
      go_wp2_with (at_builtin; refine append_run rfl _ _ 75 rfl _ _ rfl rfl _ w5 hrun5 ?_)
      go_end0
      exact ⟨rfl, HO.out⟩))
end Go.Proofs.Ytkdlakcmhdiojaa
/- The program's numbers: of knots that were met. -/
namespace Go.Proofs.Ytkdlakcmhdiojaa
open Go.ChangeShapes Go.WideShapes Go.ChangeAt Go.RowKit Go.Deep
theorem numF_val {mb : List Nat} (hnd : mb.Nodup) {m : Nat} (hm : m < mb.length) : numF mb (blk mb (m : Int)) = some m := by
  have hmem := blk_mem hm
  have h1 := ix_at hmem
  have h2 := ix_lt hmem
  have h3 := blk_at h2
  rw [h1] at h3
  unfold numF
  rw [if_pos hmem]
  exact congrArg some (blk_inj hnd hm h2 (Option.some.inj h3)).symm
theorem TrX.stays {B : Nat} {t : TypeId} {rest : List Value} {lo : Nat} {mb : List Nat} {nv v : Value} {w w' : World} (h : TrX B t rest lo mb nv v w) (hb : Below w.heap.size w w') : TrX B t rest lo mb nv v w' := by
  refine ⟨(hb.block _ (Array.getElem?_eq_some_iff.1 h.at_).1).trans h.at_, h.sl, g_row_below h.row hb, ?_⟩
  rcases h.map with e | ⟨M, e, hl, hM⟩
  · exact .inl e
  · exact .inr ⟨M, e, hl, hM.same (hb.block _ hM.lt)⟩
set_option maxHeartbeats 8000000 in
set_option maxRecDepth 100000 in
theorem numbers_any (B : Nat) (t : TypeId) (rest : List Value) (lo : Nat) (mb : List Nat) (nv v : Value) (w : World) (hT : TrX B t rest lo mb nv v w) (hL : ∀ x ∈ mb, Live w x) (hnd : mb.Nodup) (pv : Value) (l : List Int) (hP : PlAt w pv (l.map (blk mb))) (hl : l.length ≤ 1048576) (hin : ∀ k ∈ l, 0 ≤ k ∧ k < (mb.length : Int)) (hml : mb.length ≤ 1048576) :
    Calls Try.prog 53 #[.pointer (some ⟨B, 0, none⟩), pv] w fun e w' => (∃ v, e = .returned v ∧ isSlG v ∧ w'.ownsRow w.heap.size 3 1 v l.length (ilV l)) ∧ Below w.heap.size w w' := by
  obtain ⟨pa, pc, rfl⟩ := hP.sl
  rw [List.length_map] at hP ⊢
  have hlI : (l.length : Int) ≤ 1048576 := by omega
  have HIN := hidG hin
  have HLN : Hid (l.length ≤ 1048576) := hl
  have HTT := hidG hT
  have HLV := hidG hL
  have HND := hidG (And.intro hnd hml)
  have HP : Hid (PlAt w (.slice pa (l.map (blk mb)).length pc) (l.map (blk mb))) := by show PlAt _ _ _; rw [List.length_map]; exact hP
  have HO0 : Hid (w.ownsRow w.heap.size 3 1 (.slice none 0 0) 0 (ilV (l.take 0))) := ⟨by simp [ilV], .inl ⟨rfl, rfl⟩⟩
  clear hP hin hl hT hL hnd hml
  go_enter Try.func53, Try.ntmps53
  go_wp2_with fail
  go_loopw [5, 10] (fun ov iv wr => ∃ (k : Nat) (oa : Option Addr) (on oc : Nat), ov = .slice oa on oc ∧ iv = .int .i64 k ∧ k ≤ l.length ∧ Hid (wr.ownsRow w.heap.size 3 1 (.slice oa on oc) k (ilV (l.take k))) ∧ Hid (Below w.heap.size w wr)) (fun _ iv _ => l.length - (intOf iv).toNat)
  case atStart => exact ⟨0, none, 0, 0, rfl, rfl, Nat.zero_le _, HO0, Below.refl _ _⟩
  case round =>
    obtain ⟨k, oa, on, oc, rfl, rfl, hk, HO, HB⟩ := hrel
    clear HO0
    by_cases hlt : k < l.length
    · have hltI : (k : Int) < (l.length : Int) := by omega
      obtain ⟨x, hx⟩ : ∃ x, l[k]? = some x := ⟨_, List.getElem?_eq_getElem hlt⟩
      obtain ⟨b, o, rfl, hbl, d⟩ := HP.out.at (show (l.map (blk mb))[k]? = some (blk mb x) by rw [List.getElem?_map, hx]; rfl)
      rw [← HB.out.cell hbl] at d
      have hx0 := HIN.out x (List.mem_of_getElem? hx)
      obtain ⟨m, rfl⟩ := Int.eq_ofNat_of_zero_le hx0.1
      have hm : m < mb.length := by omega
      have hmI : (m : Int) ≤ 1048576 := by have := HND.out.2; omega
      unfold ptr at d
      have hTw := HTT.out.stays HB.out
      have c0 := tr_0 hTw.at_
      have hmem := blk_mem hm
      obtain ⟨ti, hti, hsz⟩ := infoKi
      have hLw : ∀ x ∈ mb, Live wr x := fun x hx => by
        obtain ⟨cs, tt, hh⟩ := HLV.out x hx
        exact ⟨cs, tt, (HB.out.block x (Array.getElem?_eq_some_iff.1 hh).1).trans hh⟩
      obtain ⟨M, rfl, hlo, hM⟩ : ∃ M, nv = .map (some M) ∧ lo ≤ M ∧ PmAt natVG wr M (numF mb) := by
        rcases hTw.map with ⟨_, h3⟩ | h3
        · rw [h3] at hm; exact absurd hm (Nat.not_lt_zero _)
        · exact h3
      have hlook := hM.look (P := Try.prog) (fun x v hx => hLw x (by unfold numF at hx; split at hx; assumption; cases hx)) Try.underlying74 Try.underlying84 hti hsz (zeroNumG wr) (hLw _ hmem) false
      rw [numF_val HND.out.1 hm] at hlook
      simp only [natVG, ptr, Bool.false_eq_true, if_false] at hlook
      obtain ⟨v5, w5, hrun5, hsl5, hown5, hbel5, hot5, hid5⟩ := push_own2 (P := Try.prog) Try.underlying25 infoIt rfl (by decide) wr w.heap.size _ _ _ HO.out #[.int .i64 (m : Int)] rfl (by intro u hu; simp at hu; subst hu; rfl) (by have := HLN.out; omega) (by omega) HB.out.size 25
      obtain ⟨a5, n5, c5, rfl⟩ := hsl5
      have HO5 : Hid (w5.ownsRow w.heap.size 3 1 (.slice a5 n5 c5) (k + 1) (ilV (l.take (k + 1)))) := by
        show World.ownsRow _ _ _ _ _ _ _
        have e : ilV (l.take (k + 1)) = ilV (l.take k) ++ [.int .i64 (m : Int)] := by
          rw [List.take_add_one, hx]
          unfold ilV
          simp
        rw [e]
        exact hown5
      have HB5 : Hid (Below w.heap.size w w5) := HB.out.trans hbel5
      clear hown5 hbel5 hot5 hid5 HO HB hx hbl hx0 hm hTw hmem hti hsz hLw hM hlo
      go_wp2_with (at_builtin; refine append_run rfl _ _ 25 rfl _ _ rfl rfl _ w5 hrun5 ?_)
      go_roundw
      case rel => exact ⟨k + 1, _, _, _, rfl, by go_num, hlt, HO5, HB5⟩
      case measure => simp [intOf]; omega
    · have hge : ¬ (k : Int) < (l.length : Int) := by omega
      have HOF : Hid (wr.ownsRow w.heap.size 3 1 (.slice oa on oc) l.length (ilV l)) := by
        show World.ownsRow _ _ _ _ _ _ _
        have h1 := HO.out
        rw [List.take_of_length_le (by omega)] at h1
        rw [show l.length = k by omega]
        exact h1
      clear HO
      go_wp2_with fail
      go_ret
      exact ⟨⟨_, rfl, ⟨_, _, _, rfl⟩, HOF.out⟩, HB.out⟩
end Go.Proofs.Ytkdlakcmhdiojaa
