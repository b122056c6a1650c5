/- Several texts in one: Gda Gcx Gcz Gdb Gdc. -/
import Derived.Test.YtkdlakcmhdiojaaZqad
import Derived.Test.YtkdlakcmhdiojaaZqak
import Derived.Deep.RegionHeld3
import Derived.Test.YtkdlakcmhdiojaaZqaw
import Derived.Test.YtkdlakcmhdiojaaZqae
/- Compose, plain: from root to root. -/
namespace Go.Proofs.Ytkdlakcmhdiojaa
open Go.RowKit
theorem seg_head {l : List Ev} {u : Int} : ∀ (d p : Nat) (r : Nat) (R : List Nat), l.length ≤ p + d → seg l u p = r :: R → p ≤ r ∧ r < l.length ∧ inAt l u r = true ∧ (∀ i, p ≤ i → i < r → inAt l u i = false) ∧ R = seg l u (r + 1)
  | 0, p, r, R, hd, h => by rw [seg_end l u p (by omega)] at h; cases h
  | d + 1, p, r, R, hd, h => by
    by_cases hp : l.length ≤ p
    · rw [seg_end l u p hp] at h; cases h
    · cases hi : inAt l u p with
      | true =>
        rw [seg_yes (by omega) hi] at h
        injection h with h1 h2
        subst h1
        exact ⟨Nat.le_refl _, by omega, hi, fun i h3 h4 => by omega, h2.symm⟩
      | false =>
        rw [seg_no hi] at h
        obtain ⟨h1, h2, h3, h4, h5⟩ := seg_head d (p + 1) r R (by omega) h
        refine ⟨by omega, h2, h3, fun i h6 h7 => ?_, h5⟩
        by_cases e : i = p
        · rw [e]; exact hi
        · exact h4 i (by omega) h7
theorem root_in {l : List Ev} {k : Nat} {e : Ev} (he : l[k]? = some e) (hs : stk l k = []) : inAt l (-1) k = nodE e := by
  have hk : k < l.length := (List.getElem?_eq_some_iff.1 he).1
  unfold inAt
  rw [nodB_some he, up_head l k (by omega), hs]
  simp [headI]
/-- Where no node stands, nothing is changed. -/
theorem still {l : List Ev} (h : nested l = true) : ∀ (d p : Nat), p + d ≤ l.length → stk l p = [] → (∀ i, p ≤ i → i < p + d → inAt l (-1) i = false) → stk l (p + d) = [] ∧ nodesS l (p + d) = nodesS l p ∧ atS l (p + d) = atS l p ∧ kidsTo l (-1) (p + d) = kidsTo l (-1) p
  | 0, p, _, hs, _ => ⟨hs, rfl, rfl, rfl⟩
  | d + 1, p, hd, hs, ha => by
    obtain ⟨e, he⟩ : ∃ e, l[p]? = some e := ⟨_, List.getElem?_eq_getElem (by omega)⟩
    have hi := ha p (Nat.le_refl _) (by omega)
    have hn : nodE e = false := by rw [← root_in he hs]; exact hi
    have h7 : e.kind ≠ 7 := fun h7 => (ns_at h he).end_ h7 hs
    have hc : colE e = false := by
      cases hc : colE e with
      | false => rfl
      | true => rw [col_node hc] at hn; cases hn
    have hr : realB l p = false := by rw [real_node he, hn]; rfl
    have h1 : stk l (p + 1) = [] := by rw [stk_else he hc h7]; exact hs
    obtain ⟨a1, a2, a3, a4⟩ := still h d (p + 1) (by omega) h1 (fun i h2 h3 => ha i (by omega) (by omega))
    rw [show p + (d + 1) = p + 1 + d by omega]
    exact ⟨a1, a2.trans (nodesS_else he hr hc h7), a3.trans (atS_same hr), a4.trans (kidsTo_no hi)⟩
theorem head_pos {l : List Ev} {r j : Nat} (h : r ∈ stk l j) (hj : j ≤ l.length) : inAt l (-1) j = false := by
  have h1 := head_max h
  unfold inAt
  rw [up_head l j hj]
  have : decide (headI (stk l j) = -1) = false := decide_eq_false (by omega)
  rw [this, Bool.and_false]
/-- Behind a root. -/
theorem root_behind {l : List Ev} {r m : Nat} {e : Ev} (he : l[r]? = some e) (hn : nodE e = true) (hs : stk l r = []) (hE : endN l r = (m : Int)) :
    stk l (m + 1) = [] ∧ r ≤ m ∧ m < l.length ∧ seg l (-1) (r + 1) = seg l (-1) (m + 1) ∧ kidsTo l (-1) (m + 1) = kidsTo l (-1) r ++ [numI l r] := by
  obtain ⟨h1, h2, h3⟩ := stk_behind he hn hE
  have hb : ∀ j, r + 1 ≤ j → j < r + 1 + (m - r) → inAt l (-1) j = false := fun j h4 h5 =>
    head_pos ((open_iff he hn (by omega) (by omega)).2 (.inr (show (j : Int) ≤ endN l r by omega))) (by omega)
  have hi : inAt l (-1) r = true := by rw [root_in he hs]; exact hn
  refine ⟨h1.trans hs, h2, h3, ?_, ?_⟩
  · rw [show m + 1 = r + 1 + (m - r) by omega]
    exact seg_skip (m - r) (r + 1) hb
  · rw [show m + 1 = r + 1 + (m - r) by omega, kidsTo_skip _ _ hb, kidsTo_yes hi]
/-- So many roots are done; the place behind the last of them. -/
structure RtAt (l : List Ev) (j p : Nat) : Prop where
  rest : (rootsOf l).drop j = seg l (-1) p
  stk : stk l p = []
  le : p ≤ l.length
theorem rt_start {l : List Ev} (h : nested l = true) : RtAt l 0 0 := by
  refine ⟨?_, rfl, Nat.zero_le _⟩
  rw [List.drop_zero, ← roots_gat h, gat_in, range_seg]
theorem rt_step {l : List Ev} (h : nested l = true) {j p r : Nat} (hR : RtAt l j p) (hr : (rootsOf l)[j]? = some r) :
    ∃ e, l[r]? = some e ∧ nodE e = true ∧ p ≤ r ∧ nodesS l r = nodesS l p ∧ atS l r = atS l p ∧ ∀ m : Nat, endN l r = (m : Int) → RtAt l (j + 1) (m + 1) ∧ kidsTo l (-1) (m + 1) = kidsTo l (-1) p ++ [numI l r] := by
  have hjl : j < (rootsOf l).length := (List.getElem?_eq_some_iff.1 hr).1
  have hd : (rootsOf l).drop j = r :: (rootsOf l).drop (j + 1) := by
    rw [List.drop_eq_getElem_cons hjl]
    congr 1
    exact (List.getElem?_eq_some_iff.1 hr).2
  have h1 := hR.rest
  rw [hd] at h1
  obtain ⟨h2, h3, h4, h5, h6⟩ := seg_head l.length p r _ (by omega) h1.symm
  obtain ⟨a1, a2, a3, a4⟩ := still h (r - p) p (by omega) hR.stk (fun i h7 h8 => h5 i h7 (by omega))
  rw [show p + (r - p) = r by omega] at a1 a2 a3 a4
  obtain ⟨e, he⟩ : ∃ e, l[r]? = some e := ⟨_, List.getElem?_eq_getElem h3⟩
  have hn : nodE e = true := by rw [← root_in he a1]; exact h4
  refine ⟨e, he, hn, h2, a2, a3, fun m hE => ?_⟩
  obtain ⟨b1, b2, b3, b4, b5⟩ := root_behind he hn a1 hE
  exact ⟨⟨h6.trans b4, b1, by omega⟩, by rw [b5, a4]⟩
theorem rt_end {l : List Ev} (h : nested l = true) {p : Nat} (hR : RtAt l (rootsOf l).length p) : nodesS l l.length = nodesS l p ∧ kidsTo l (-1) l.length = kidsTo l (-1) p := by
  have h1 := hR.rest
  rw [List.drop_length] at h1
  have hle := hR.le
  have hno : ∀ i, p ≤ i → i < p + (l.length - p) → inAt l (-1) i = false := fun i h2 h3 => by
    cases hi : inAt l (-1) i with
    | false => rfl
    | true =>
      have : i ∈ seg l (-1) p := by
        unfold seg
        rw [List.mem_filter, List.mem_range'_1]
        exact ⟨⟨h2, h3⟩, hi⟩
      rw [← h1] at this
      cases this
  obtain ⟨_, a2, _, a4⟩ := still h (l.length - p) p (by omega) hR.stk hno
  rw [show p + (l.length - p) = l.length by omega] at a2 a4
  exact ⟨a2, a4⟩
theorem cnt_real {l : List Ev} {k : Nat} {e : Ev} (he : l[k]? = some e) : realB l k = (colE e || decide (e.kind = 5)) := by
  rw [real_node he]
  unfold nodE colE
  by_cases h3 : e.kind = 3
  · simp [h3]
  · by_cases h4 : e.kind = 4
    · simp [h4]
    · by_cases h5 : e.kind = 5
      · simp [h5]
      · by_cases h6 : e.kind = 6
        · simp [h6]
        · have : (decide (3 ≤ e.kind) && decide (e.kind ≤ 6)) = false := by
            by_cases h : 3 ≤ e.kind
            · rw [decide_eq_false (show ¬ e.kind ≤ 6 by omega), Bool.and_false]
            · rw [decide_eq_false h, Bool.false_and]
          rw [this]
          simp [h3, h4, h5]
end Go.Proofs.Ytkdlakcmhdiojaa
/- spec.l15Put at a text. -/
namespace Go.Proofs.Ytkdlakcmhdiojaa
open Go.ChangeShapes Go.WideShapes Go.ChangeAt Go.RowKit Go.Deep
set_option maxHeartbeats 8000000 in
set_option maxRecDepth 100000 in
theorem put_text {P0 : World} {lv : Value} {B A : Nat} {rv : Value} {l : List Ev} (hS : SlE P0 lv l) (hl : l.length ≤ 1048576) (i : Nat) (e : Ev) (vs : List Value) (w : World) (he : l[i]? = some e) (h5 : e.kind = 5) (hC : CsAt P0 B A l.length rv (nodesS l i) (atS l i) vs w) :
    Calls Try.prog 23 #[lv, .int .i64 (i : Int), .slice (some ⟨A, 0, none⟩) l.length l.length, .pointer (some ⟨B, 0, none⟩)] w fun r w' => ∃ m : Nat, endN l i = (m : Int) ∧ r = .returned (.tuple #[.int .i64 (numI l i), .int .i64 ((m : Int) + 1)]) ∧ ∃ news, CsAt P0 B A l.length rv (nodesS l (m + 1)) (atS l (m + 1)) (vs ++ news) w' ∧ (∀ v ∈ news, ∀ x, v.ownBlock = some x → w.heap.size ≤ x) ∧ FrI A w w' := by
  have hi : i < l.length := (List.getElem?_eq_some_iff.1 he).1
  have hnod : nodE e = true := by unfold nodE; simp [h5]
  have hcol : colE e = false := by unfold colE; simp [h5]
  have hrl : realB l i = true := by rw [real_node he, hnod]; simp [h5]
  have hE : endN l i = (i : Int) := endN_leaf he hnod hcol
  have hnum := num_real he (by omega)
  have hS1 := nodesS_text he h5
  have hA1 := atS_real hrl hi
  obtain ⟨la, lc, rfl⟩ := hS.sl
  obtain ⟨bb, off, rfl, hbb, ⟨c0, c1, c2, c3, c4, c5, c6, c7⟩⟩ := hS.at hC.below he
  have hbw : bb < w.heap.size := Nat.lt_of_lt_of_le hbb hC.below.size
  obtain ⟨V, hV⟩ : ∃ V, w.alloc (.cells e.row 47) = V := ⟨_, rfl⟩
  have hBV : Below w.heap.size w V := by rw [← hV]; exact al_belowG w _
  have hVE : V.heap[w.heap.size]? = some (.cells e.row 47 (0, 0)) := by rw [← hV]; exact heap_alloc_new w _
  have hCV := hC.stays hBV
  obtain ⟨na, nn, nc, b1v, b2v⟩ := hCV.box
  obtain rfl := slenC b2v
  have hAB : A ≠ B := own_neC hCV.nums rfl b1v (by decide)
  obtain ⟨cs, fr, hA⟩ := own_type hCV.nums (x := A) rfl
  have hAE : A ≠ w.heap.size := own_neC hCV.nums rfl hVE (by decide)
  obtain ⟨z0, hz0⟩ : ∃ z, V.cell? ⟨A, i, none⟩ = some z := (row_cellX hCV.nums i (by rw [ilV_len, atS_len]; exact hi)).1
  have hz1 := (row_cellX hCV.nums i (by rw [ilV_len, atS_len]; exact hi)).2
  obtain ⟨hCY, hFY⟩ := hCV.num (i := i) (by rw [atS_len]; exact hi) (cntR l i : Int)
  rw [← hA1] at hCY
  obtain ⟨Y, hY⟩ : ∃ Y, V.setCell ⟨A, i, none⟩ (.int .i64 (cntR l i : Int)) = Y := ⟨_, rfl⟩
  have b1 : Y.heap[B]? = some (.cells #[.slice na (nodesS l i).length nc, rv] 27 (0, 0)) := by rw [← hY]; exact (heap_setCell_other _ _ _ _ (Ne.symm hAB)).trans b1v
  have b2 : Y.ownsRow P0.heap.size 70 4 (.slice na (nodesS l i).length nc) (nodesS l i).length (cellsN (nodesS l i) vs) := by rw [← hY]; exact row_set b2v (row_apart b2v hA (by decide)) _ _
  have hYE : Y.heap[w.heap.size]? = some (.cells e.row 47 (0, 0)) := by rw [← hY]; exact (heap_setCell_other _ _ _ _ (Ne.symm hAE)).trans hVE
  rw [hY] at hCY hFY
  have hcl : (nodesS l i).length = cntR l i := nodesS_len l i
  have hci := cntR_le l i
  obtain ⟨a5, m5, c5', w5, hrun5, hown5, hbel5, hot5⟩ := push_nd Y.drew P0.heap.size _ (nodesS l i) vs ⟨e.kind, e.tag, e.text, []⟩ hCY.kids.len (World.ownsRow.drew b2) (by omega) (by show P0.heap.size ≤ Y.heap.size; exact hCY.below.size)
  have hbel5' : Below P0.heap.size Y w5 := ((Below.refl _ Y).drew).trans hbel5
  obtain ⟨hC6, hF6, f1, f2⟩ := hCY.push (n := ⟨e.kind, e.tag, e.text, []⟩) rfl b1 b2 hown5 hbel5' hot5
  rw [← hS1] at hC6
  have HO : Hid (CsAt P0 B A l.length rv (nodesS l (i + 1)) (atS l (i + 1)) (vs ++ [.slice none 0 0]) (w5.setCell ⟨B, 0, none⟩ (.slice a5 m5 c5')) ∧ FrI A w (w5.setCell ⟨B, 0, none⟩ (.slice a5 m5 c5'))) := ⟨hC6, (FrI.of hBV).trans (hFY.trans hF6)⟩
  have h6e : w5.heap[w.heap.size]? = some (.cells e.row 47 (0, 0)) := (hot5 w.heap.size (Array.getElem?_eq_some_iff.1 hYE).1 (row_apart b2 hYE (by decide))).trans hYE
  have hBE : B ≠ w.heap.size := fun e2 => by
    rw [e2] at b1
    rw [hYE] at b1
    injection b1 with b1
    injection b1 with _ b1
    exact absurd b1 (by decide)
  have HE := hidG hE
  have HNU := hidG hnum
  have hAw : A < w.heap.size := (hC.nums.lt A rfl).2
  have hY2 : (w.setCell ⟨A, i, none⟩ (.int .i64 (cntR l i : Int))).alloc (.cells e.row 47) = Y := by
    rw [← hY, ← hV]
    exact (World.setCell_alloc_past _ _ _ _ hAw).symm
  have HY := hidG hY2
  have y0 := n2_0 b1
  have v0 := n2_0 b1v
  rw [← hV] at v0 hz0 hz1
  have hBY : B < Y.heap.size := (Array.getElem?_eq_some_iff.1 b1).1
  have hiI : (i : Int) < (l.length : Int) := by omega
  have hlI : (l.length : Int) ≤ 1048576 := by omega
  have hcI : (cntR l i : Int) ≤ 1048576 := by omega
  rw [hcl] at y0 v0 hrun5 f1
  obtain ⟨kind, style, flag, text, anchor, tag, at_, code⟩ := e
  simp only at c0 c1 c2 c3 c4 c5 c6 c7 h5 hrun5
  unfold Ev.row at hVE HY hYE h6e v0 hz0 hz1
  unfold knV at hrun5
  simp only [] at hVE HY hYE h6e hrun5 v0 hz0 hz1
  have a0 : (Y.alloc (.cells #[.int .i64 kind, .string tag, .string text, .slice none 0 0] 70)).cell? ⟨B, 0, none⟩ = some (.slice na (cntR l i) nc) := by rw [World.cell?_of_block (Below.heap_alloc Y _ B hBY)]; exact y0
  have y1 : Y.cell? ⟨w.heap.size, 0, none⟩ = some (.int .i64 kind) := by simp [World.cell?, hYE]
  have y2 : Y.cell? ⟨w.heap.size, 5, none⟩ = some (.string tag) := by simp [World.cell?, hYE]
  have y3 : Y.cell? ⟨w.heap.size, 3, none⟩ = some (.string text) := by simp [World.cell?, hYE]
  have w1e : w5.cell? ⟨w.heap.size, 0, none⟩ = some (.int .i64 kind) := by simp [World.cell?, h6e]
  have w2e : w5.cell? ⟨w.heap.size, 5, none⟩ = some (.string tag) := by simp [World.cell?, h6e]
  have w3e : w5.cell? ⟨w.heap.size, 3, none⟩ = some (.string text) := by simp [World.cell?, h6e]
  have t6 : (kind == 6) = false := by rw [beq_eq_false_iff_ne]; omega
  have t5 : (kind == 5) = true := by rw [beq_iff_eq]; exact h5
  clear he h5 hC hnum hnod hcol hrl hE hS1 hA1 hbb hV hBV hVE hCV hS hi hY hY2 hCY hFY hC6 hF6 hown5 hbel5 hot5 hbel5' b1 b2 b1v b2v hA hYE h6e hcl hci hl
  go_enter Try.func23, Try.ntmps23
  go_wp2_with fail
  rw [HY.out]
  go_region_law (refine step_append_runP (by rfl) _ _ 24 (by rfl) _ _ (by rfl) (by rfl) _ w5 hrun5 ?_)
  all_goals (
    go_wp2_with fail
    go_ret2
    exact ⟨i, HE.out, by
      show Ending.returned (.tuple #[.int .i64 (cntR l i : Int), .int .i64 ((i : Int) + 1)]) = _
      rw [HNU.out], [.slice none 0 0], HO.out.1, fun v h x hx => by
        obtain rfl := List.mem_singleton.1 h
        simp [Value.ownBlock] at hx, HO.out.2⟩)
end Go.Proofs.Ytkdlakcmhdiojaa
/- spec.l15Put, every node of a whole stream. -/
namespace Go.Proofs.Ytkdlakcmhdiojaa
open Go.ChangeShapes Go.WideShapes Go.ChangeAt Go.RowKit Go.Deep
theorem put_all {P0 : World} {lv : Value} {B A : Nat} {rv : Value} {l : List Ev} (hS : SlE P0 lv l) (hw : whole l = true) (hl : l.length ≤ 1048576) : ∀ f, PutC P0 lv B A rv l f
  | 0 => fun i _ _ _ he _ hf _ => by
    have := (List.getElem?_eq_some_iff.1 he).1
    omega
  | f + 1 => fun i e vs w he hn hf hC => by
    obtain ⟨h1, h2, h3⟩ := whole_parts hw
    by_cases h6 : e.kind = 6
    · exact put_alias hS h1 hl i e vs w he h6 (h3 i (List.getElem?_eq_some_iff.1 he).1) hC
    · by_cases hc : colE e = true
      · exact put_coll hS h1 h2 hl (put_all hS hw hl f) i hf e vs w he hc hC
      · refine put_text hS hl i e vs w he ?_ hC
        unfold nodE at hn
        unfold colE at hc
        simp at hn hc
        omega
end Go.Proofs.Ytkdlakcmhdiojaa
/- Compose by the specification: the roots' list; an answer of a graph and a truth. -/
namespace Go.Proofs.Ytkdlakcmhdiojaa
open Go.ChangeShapes Go.WideShapes Go.ChangeAt Go.RowKit Go.Deep
theorem results_row_bool {P : Program} {fn : Func} {p u : Tmp} {ty : TypeId} (h : fn.results = #[.cell p ty, .tmp u]) (tmps : Array Value) (w : World) (g : Nat) (t : TypeId) (cs : Array Value) (fr : Nat × Nat) (d : TypeDesc) (v : Value)
    (hp : tmps.getD p undef = .pointer (some ⟨g, 0, none⟩)) (hv : tmps.getD u undef = v) (hg : w.heap[g]? = some (.cells cs t fr))
    (hu : P.underlying ty = some d) (hd : (match d with | .struct _ | .array _ _ => true | _ => false) = true) (hi : (P.info? ty).map (·.size) = some cs.size) :
    (results fn tmps).run P w = .ok (.tuple #[.agg cs, v]) w := by
  have hp' : tmps[p]?.getD undef = .pointer (some ⟨g, 0, none⟩) := by simpa using hp
  have hv' : tmps[u]?.getD undef = v := by simpa using hv
  simp [results, h, hp', hv', asAddr, run_loadVar_row w g t ty cs fr d hg hu hd hi]
theorem ints_il (R : List Nat) : intsV R = ilV (R.map (fun (n : Nat) => (n : Int))) := by
  unfold intsV ilV
  rw [List.map_map]
  rfl
/-- One root comes behind those that are there. -/
theorem CsAt.root {P0 w : World} {B A N : Nat} {rv : Value} {ns : List Nd} {ats : List Int} {vs : List Value} (h : CsAt P0 B A N rv ns ats vs w) {ks : List Int} (hr : w.ownsRow P0.heap.size 3 1 rv ks.length (ilV ks)) (hA : rv.ownBlock ≠ some A) (hv : ∀ (i : Nat) (v : Value) (x : Nat), vs[i]? = some v → v.ownBlock = some x → rv.ownBlock ≠ some x) (x : Int) (hl : ks.length ≤ 1048576) :
    ∃ a n c w5, (Builtin.append_ #[25, 25] 25 #[rv, .slice (some ⟨w.heap.size, 0, none⟩) 1 1]).run Try.prog (w.alloc (.cells #[.int .i64 x] 3)) = .ok (.slice a n c) w5 ∧
      CsAt P0 B A N (.slice a n c) ns ats vs (w5.setCell ⟨B, 1, none⟩ (.slice a n c)) ∧ (w5.setCell ⟨B, 1, none⟩ (.slice a n c)).ownsRow P0.heap.size 3 1 (.slice a n c) (ks ++ [x]).length (ilV (ks ++ [x])) ∧
      (Value.slice a n c).ownBlock ≠ some A ∧ (∀ (i : Nat) (v : Value) (y : Nat), vs[i]? = some v → v.ownBlock = some y → (Value.slice a n c).ownBlock ≠ some y) ∧
      ((Value.slice a n c).ownBlock = rv.ownBlock ∨ (Value.slice a n c).ownBlock = some (w.heap.size + 1)) ∧
      (∀ b, b < w.heap.size → rv.ownBlock ≠ some b → b ≠ B → (w5.setCell ⟨B, 1, none⟩ (.slice a n c)).heap[b]? = w.heap[b]?) ∧
      w5.cell? ⟨B, 1, none⟩ = some rv ∧ w5.frozen? ⟨B, 1, none⟩ = false ∧ w.heap.size ≤ (w5.setCell ⟨B, 1, none⟩ (.slice a n c)).heap.size := by
  obtain ⟨a, n, c, w5, hrun, hown, hbel, hot, hid⟩ := push_i w P0.heap.size rv ks x hr (by omega) h.below.size
  have h5 := h.far hr hbel hot hA hv
  obtain ⟨na, nn, nc, h1, h2⟩ := h5.box
  have hAl := (h.nums.lt A rfl).2
  refine ⟨a, n, c, w5, hrun, ⟨⟨na, nn, nc, n2_set1 h1 _, row_set h2 (row_apart h2 h1 (by decide)) _ _⟩, h5.kids.block (fun i v y hv2 hy => ?_), row_set h5.nums (row_apart h5.nums h1 (by decide)) _ _, h5.apart, h5.lo, h5.below.setCell h.lo _⟩, row_set hown (row_apart hown h1 (by decide)) _ _, ?_, fun i v y hv2 hy => ?_, hid, fun b hb hne hB => ?_, n2_1 h1, n2_f h1 1, by have := hbel.size; simp [World.setCell]; exact this⟩
  · obtain ⟨p, hp⟩ := h5.kids.get hv2
    exact heap_setCell_other _ _ _ _ (own_neC (h5.kids.own i v p hv2 hp) hy h1 (by decide))
  · rcases hid with e | e
    · rw [e]; exact hA
    · rw [e]; intro e2; injection e2 with e2; omega
  · rcases hid with e | e
    · rw [e]; exact hv i v y hv2 hy
    · have := (h.kids.lt hv2 hy).2
      rw [e]; intro e2; injection e2 with e2; omega
  · rw [heap_setCell_other _ _ _ _ hB]
    exact hot b hb hne
/-- How far the roots are. -/
structure RsAt (P : World) (l : List Ev) (R : List Nat) (lo : Nat) (rs : Value) (j : Nat) (w : World) : Prop where
  ex : ∃ (p : Nat) (vs : List Value) (ra : Option Addr) (rn rc : Nat), RtAt l j p ∧ CsAt P P.heap.size (P.heap.size + 1) l.length (.slice ra rn rc) (nodesS l p) (atS l p) vs w ∧ w.ownsRow P.heap.size 3 1 (.slice ra rn rc) (kidsTo l (-1) p).length (ilV (kidsTo l (-1) p)) ∧ (Value.slice ra rn rc).ownBlock ≠ some (P.heap.size + 1) ∧ (∀ (i : Nat) (v : Value) (x : Nat), vs[i]? = some v → v.ownBlock = some x → (Value.slice ra rn rc).ownBlock ≠ some x) ∧ (∀ x, rs.ownBlock = some x → (Value.slice ra rn rc).ownBlock ≠ some x)
  row : w.ownsRow lo 3 1 rs R.length (ilV (R.map (fun (n : Nat) => (n : Int))))
  lo : P.heap.size + 2 ≤ lo
theorem cs_start (P : World) (l : List Ev) (hl : l.length ≤ 1048576) : CsAt P P.heap.size (P.heap.size + 1) l.length (.slice none 0 0) (nodesS l 0) (atS l 0) [] ((P.alloc (.cells #[.slice none 0 0, .slice none 0 0] 27)).alloc (.cells (madeCells #[.int .i64 0] l.length) 3)) := by
  obtain ⟨V, hV⟩ : ∃ V, P.alloc (.cells #[.slice none 0 0, .slice none 0 0] 27) = V := ⟨_, rfl⟩
  have hVs : V.heap.size = P.heap.size + 1 := by rw [← hV]; show (P.heap.push _).size = _; simp
  have hE : V.heap[P.heap.size]? = some (.cells #[.slice none 0 0, .slice none 0 0] 27 (0, 0)) := by rw [← hV]; exact heap_alloc_new P _
  have hBV : Below P.heap.size P V := by rw [← hV]; exact al_belowG P _
  rw [hV]
  have hBW := al_belowG V (.cells (madeCells #[.int .i64 0] l.length) 3)
  have hz : atS l 0 = List.replicate l.length 0 := by
    apply List.ext_getElem
    · rw [atS_len, List.length_replicate]
    · intro i h1 h2
      unfold atS
      simp
  refine ⟨⟨none, 0, 0, (hBW.block P.heap.size (by omega)).trans hE, rfl, .inl ⟨rfl, rfl⟩⟩, KidsOwn.nil _ _, ?_, fun i v h => by simp at h, Nat.le_refl _, hBV.trans (hBW.mono hBV.size)⟩
  rw [hz, ← hVs]
  refine ⟨by simp [ilV], .inr ⟨V.heap.size, l.length, madeCells #[.int .i64 0] l.length, rfl, by omega, heap_alloc_new V _, Nat.le_refl _, by unfold maxLen; omega, by simp [size_madeCells], ?_⟩⟩
  rw [made_ints]
  exact List.take_of_length_le (by simp [ilV])
theorem rs_start (P : World) (l : List Ev) (hn : nested l = true) (hl : l.length ≤ 1048576) (x : World) (R : List Nat) (lo : Nat) (rs : Value) (W : World) (hW : (P.alloc (.cells #[.slice none 0 0, .slice none 0 0] 27)).alloc (.cells (madeCells #[.int .i64 0] l.length) 3) = W) (hb : Below W.heap.size W x) (hr : x.ownsRow lo 3 1 rs R.length (intsV R)) (hlo : P.heap.size + 2 ≤ lo) : RsAt P l R lo rs 0 x := by
  have h0 := cs_start P l hl
  rw [hW] at h0
  refine ⟨⟨0, [], none, 0, 0, rt_start hn, h0.stays hb, ⟨rfl, .inl ⟨rfl, rfl⟩⟩, by simp [Value.ownBlock], fun i v y h => by simp at h, fun y _ => by simp [Value.ownBlock]⟩, ?_, hlo⟩
  rw [← ints_il]
  exact hr
/-- A root is put. -/
theorem rs_step {P x : World} {l : List Ev} {R : List Nat} {lo : Nat} {rs : Value} {j r : Nat} {lv : Value} (hS : SlE P lv l) (hw : whole l = true) (hl : l.length ≤ 1048576) (hR : rootsOf l = R) (h : RsAt P l R lo rs j x) (hr : R[j]? = some r) :
    Calls Try.prog 23 #[lv, .int .i64 (r : Int), .slice (some ⟨P.heap.size + 1, 0, none⟩) l.length l.length, .pointer (some ⟨P.heap.size, 0, none⟩)] x fun e w3 => ∃ (m : Nat) (rv : Value) (a : Option Addr) (n c : Nat) (w5 : World), e = .returned (.tuple #[.int .i64 (numI l r), .int .i64 ((m : Int) + 1)]) ∧ w3.cell? ⟨P.heap.size, 1, none⟩ = some rv ∧ P.heap.size < w3.heap.size ∧
      (Builtin.append_ #[25, 25] 25 #[rv, .slice (some ⟨w3.heap.size, 0, none⟩) 1 1]).run Try.prog (w3.alloc (.cells #[.int .i64 (numI l r)] 3)) = .ok (.slice a n c) w5 ∧ w5.cell? ⟨P.heap.size, 1, none⟩ = some rv ∧ w5.frozen? ⟨P.heap.size, 1, none⟩ = false ∧ RsAt P l R lo rs (j + 1) (w5.setCell ⟨P.heap.size, 1, none⟩ (.slice a n c)) := by
  obtain ⟨p, vs, ra, rn, rc, h1, h2, h3, h4, h5, h6⟩ := h.ex
  have hn := (whole_parts hw).1
  rw [← hR] at hr
  obtain ⟨e, he, hne, hpr, hns, hats, hnx⟩ := rt_step hn h1 hr
  rw [← hns, ← hats] at h2
  refine (put_all hS hw hl (l.length + 1) r e vs x he hne (by omega) h2).mono ?_
  rintro ex w3 ⟨m, hE, rfl, news, hC3, hN3, hF3⟩
  obtain ⟨k1, k2⟩ := hnx m hE
  have hrow3 := hF3.row h3 h4
  have hlt := fun y (hy : (Value.slice ra rn rc).ownBlock = some y) => (h3.lt y hy).2
  have hkl := kidsTo_len l (-1) p
  have hple := h1.le
  obtain ⟨na, nn, nc, hb1, hb2⟩ := hC3.box
  obtain ⟨a, n, c, w5, q1, q2, q3, q4, q5, q6, q7, q8, q9, q10⟩ := hC3.root hrow3 h4 (fun i v y hv hy => by
    by_cases hi : i < vs.length
    · rw [List.getElem?_append_left hi] at hv
      exact h5 i v y hv hy
    · rw [List.getElem?_append_right (by omega)] at hv
      have h7 := hN3 v (List.mem_of_getElem? hv) y hy
      intro h8
      have := hlt y h8
      omega) (numI l r) (by omega)
  rw [← k2] at q3
  have hbrs : ∀ y, rs.ownBlock = some y → y < x.heap.size := fun y hy => (h.row.lt y hy).2
  refine ⟨m, _, a, n, c, w5, rfl, n2_1 hb1, (Array.getElem?_eq_some_iff.1 hb1).1, q1, q8, q9, ⟨m + 1, vs ++ news, a, n, c, k1, q2, q3, q4, q5, fun y hy => ?_⟩, ?_, h.lo⟩
  · rcases q6 with e6 | e6
    · rw [e6]; exact h6 y hy
    · have h7 := hbrs y hy
      have h8 := hF3.1
      rw [e6]; intro e2; injection e2 with e2; omega
  · have hne1 : ∀ y, rs.ownBlock = some y → y ≠ P.heap.size + 1 ∧ y ≠ P.heap.size := fun y hy => by have := (h.row.lt y hy).1; have := h.lo; omega
    have hr3 := hF3.row h.row (fun e => (hne1 _ e).1 rfl)
    exact g_row_block hr3 (fun y hy => q7 y (hr3.lt y hy).2 (h6 y hy) (hne1 y hy).2)
theorem rs_end {P x : World} {l : List Ev} {R : List Nat} {lo : Nat} {rs : Value} (hw : whole l = true) (hR : rootsOf l = R) (h : RsAt P l R lo rs R.length x) :
    ∃ (na ra : Option Addr) (nn nc rn rc : Nat) (vs : List Value), x.heap[P.heap.size]? = some (.cells #[.slice na nn nc, .slice ra rn rc] 27 (0, 0)) ∧ GOwn P.heap.size x (.slice na nn nc) (.slice ra rn rc) ⟨knotsTo l l.length, kidsTo l (-1) l.length⟩ vs := by
  obtain ⟨p, vs, ra, rn, rc, h1, h2, h3, h4, h5, h6⟩ := h.ex
  obtain ⟨g1, g2, _⟩ := whole_parts hw
  rw [← hR] at h1
  obtain ⟨e1, e2⟩ := rt_end g1 h1
  obtain ⟨na, nn, nc, b1, b2⟩ := h2.box
  rw [← nodes_end g2, e1, e2]
  exact ⟨na, ra, nn, nc, rn, rc, vs, b1, b2, h2.kids, h3, h5⟩
end Go.Proofs.Ytkdlakcmhdiojaa
/- spec.Compose answers as the plain function. -/
namespace Go.Proofs.Ytkdlakcmhdiojaa
open Go.ChangeShapes Go.WideShapes Go.ChangeAt Go.RowKit Go.Deep
theorem rs_cell {w : World} {lo n rc j r : Nat} {ra : Option Addr} {R : List Nat} (h : w.ownsRow lo 3 1 (.slice ra n rc) R.length (ilV (R.map (fun (n : Nat) => (n : Int))))) (hj : R[j]? = some r) : ∃ b, ra = some ⟨b, 0, none⟩ ∧ w.cell? ⟨b, j, none⟩ = some (.int .i64 (r : Int)) := by
  have hjl := (List.getElem?_eq_some_iff.1 hj).1
  have hx : (ilV (R.map (fun (n : Nat) => (n : Int))))[j]? = some (.int .i64 (r : Int)) := by unfold ilV; rw [List.getElem?_map, List.getElem?_map, hj]; rfl
  rcases h.2 with ⟨_, e⟩ | ⟨g, cap, cur, e1, _⟩
  · omega
  · injection e1 with e1
    subst e1
    have h1 := h.cells (g := g) rfl j _ hx
    have a1 : (⟨g, 0, none⟩ : Addr).add j = ⟨g, j, none⟩ := by unfold Addr.add; split <;> simp_all
    rw [a1] at h1
    exact ⟨g, rfl, h1⟩
theorem rs_below {P x : World} {l : List Ev} {R : List Nat} {lo : Nat} {rs : Value} {j : Nat} (h : RsAt P l R lo rs j x) : Below P.heap.size P x := by
  obtain ⟨_, _, _, _, _, _, h2, _⟩ := h.ex
  exact h2.below
theorem GOwn.setLow {lo : Nat} {w : World} {nv rv : Value} {g : Gr} {vs : List Value} (h : GOwn lo w nv rv g vs) {b : Nat} (hb : b < lo) (j : Nat) (u : Value) : GOwn lo (w.setCell ⟨b, j, none⟩ u) nv rv g vs :=
  ⟨g_row_block h.nodes (fun x hx => heap_setCell_other _ _ _ _ (by have := (h.nodes.lt x hx).1; show x ≠ b; omega)), h.kids.block (fun i v x hv hx => heap_setCell_other _ _ _ _ (by have := (h.kids.lt hv hx).1; show x ≠ b; omega)), g_row_block h.roots (fun x hx => heap_setCell_other _ _ _ _ (by have := (h.roots.lt x hx).1; show x ≠ b; omega)), h.apart⟩
theorem com_no {l : List Ev} {g : Gr} {ok : Bool} (hg : composeP l = (g, ok)) (h : ¬ (whole l = true ∧ cntR l l.length ≤ 3000)) : g = ⟨[], []⟩ ∧ ok = false := by
  unfold composeP at hg
  rw [if_neg h] at hg
  injection hg with h1 h2
  exact ⟨h1.symm, h2.symm⟩
theorem com_yes {l : List Ev} {g : Gr} {ok : Bool} (hg : composeP l = (g, ok)) (h : whole l = true ∧ cntR l l.length ≤ 3000) : g = ⟨knotsTo l l.length, kidsTo l (-1) l.length⟩ ∧ ok = true := by
  unfold composeP at hg
  rw [if_pos h] at hg
  injection hg with h1 h2
  exact ⟨h1.symm, h2.symm⟩
theorem gr_none (w : World) : GrAt w (.slice none 0 0) (.slice none 0 0) ⟨[], []⟩ := ⟨.inl ⟨rfl, _, _, rfl⟩, .inl ⟨rfl, _, _, rfl⟩⟩
/-- What Compose answers. -/
def ComOut (w : World) (g : Gr) (ok : Bool) (e : Ending) (w' : World) : Prop := (∃ nv rv, e = .returned (.tuple #[.agg #[nv, rv], .bool ok]) ∧ isSlG nv ∧ isSlG rv ∧ GrAt w' nv rv g) ∧ Below w.heap.size w w'
theorem com_none {w w1 : World} {g : Gr} {ok : Bool} (h : g = ⟨[], []⟩ ∧ ok = false) (hb : Below w.heap.size w w1) : ComOut w g ok (.returned (.tuple #[.agg #[.slice none 0 0, .slice none 0 0], .bool false])) w1 := by
  obtain ⟨rfl, rfl⟩ := h
  exact ⟨⟨_, _, rfl, ⟨_, _, _, rfl⟩, ⟨_, _, _, rfl⟩, gr_none _⟩, hb⟩
set_option maxHeartbeats 8000000 in
set_option maxRecDepth 100000 in
theorem spec_compose (w : World) (v : Value) (l : List Ev) (hS : SlE w v l) (hl : totE l + l.length ≤ 1048576) (g : Gr) (ok : Bool) (hg : composeP l = (g, ok)) :
    Calls Try.prog 6 #[v] w fun e w' => ComOut w g ok e w' := by
  obtain ⟨la, lc, rfl⟩ := hS.sl
  have HV := hidG hS
  have HT := hidG hl
  have hlI : (l.length : Int) ≤ 1048576 := by omega
  have HG := hidG hg
  obtain ⟨V, hV⟩ : ∃ V, w.alloc (.cells #[.slice none 0 0, .slice none 0 0] 27) = V := ⟨_, rfl⟩
  have HB0 : Hid (Below w.heap.size w V) := by show Below _ _ _; rw [← hV]; exact al_belowG w _
  have HE0 : Hid (V.heap[w.heap.size]? = some (.cells #[.slice none 0 0, .slice none 0 0] 27 (0, 0))) := by show _ = _; rw [← hV]; exact heap_alloc_new w _
  have HS0 : Hid (V.heap.size = w.heap.size + 1) := by show _ = _; rw [← hV]; show (w.heap.push _).size = _; simp
  have HQ : Hid (∀ x, Below V.heap.size V x → x.heap[w.heap.size]? = some (.cells #[.slice none 0 0, .slice none 0 0] 27 (0, 0))) := fun x hb => (hb.block w.heap.size (by rw [HS0.out]; exact Nat.lt_succ_self _)).trans HE0.out
  have HVV := hidG hV
  clear hS hl hg hV
  go_enter Try.func6, Try.ntmps6
  go_wp2_with fail
  rw [HVV.out]
  go_loopw [4, 15] (fun nv kv wr => ∃ (k : Nat), nv = .int .i64 (cntR l k : Int) ∧ kv = .int .i64 (k : Int) ∧ k ≤ l.length ∧ Hid (Below V.heap.size V wr)) (fun _ kv _ => l.length - (intOf kv).toNat)
  case atStart => exact ⟨0, rfl, rfl, Nat.zero_le _, Below.refl _ _⟩
  case round =>
    obtain ⟨k, rfl, rfl, hk, HB⟩ := hrel
    have HBw : Hid (Below w.heap.size w wr) := HB0.out.trans (HB.out.mono HB0.out.size)
    obtain ⟨c, hc⟩ : ∃ c, cntR l k = c := ⟨_, rfl⟩
    have hcI : (c : Int) ≤ 1048576 := by rw [← hc]; have := cntR_le l k; omega
    rw [hc]
    by_cases hlt : k < l.length
    · have hltI : (k : Int) < (l.length : Int) := by omega
      obtain ⟨e, he⟩ : ∃ e, l[k]? = some e := ⟨_, List.getElem?_eq_getElem hlt⟩
      have hcr := cnt_real he
      obtain ⟨b, off, hab, hbl, hE⟩ := HV.out.at HBw.out he
      subst hab
      obtain ⟨c0, c1, c2, c3, c4, c5, c6, c7⟩ := hE
      obtain ⟨kind, style, flag, text, anchor, tag, at_, code⟩ := e
      simp only at c0 c1 c2 c3 c4 c5 c6 c7 hcr
      obtain ⟨W, hW⟩ : ∃ W, wr.alloc (.cells #[.int .i64 kind, .int .i64 style, .bool flag, .string text, .string anchor, .string tag, .int .i64 at_, .int .i64 code] 47) = W := ⟨_, rfl⟩
      have hBW : Below wr.heap.size wr W := by rw [← hW]; exact al_belowG wr _
      have hWE : W.heap[wr.heap.size]? = some (.cells #[.int .i64 kind, .int .i64 style, .bool flag, .string text, .string anchor, .string tag, .int .i64 at_, .int .i64 code] 47 (0, 0)) := by rw [← hW]; exact heap_alloc_new wr _
      have hWs : W.heap.size = wr.heap.size + 1 := by rw [← hW]; show (wr.heap.push _).size = _; simp
      obtain ⟨cb, hcb⟩ : ∃ cb, colE ⟨kind, style, flag, text, anchor, tag, at_, code⟩ = cb := ⟨_, rfl⟩
      have cC := coll_any ⟨kind, style, flag, text, anchor, tag, at_, code⟩ W cb hcb
      simp only at cC
      have HBW : Hid (Below V.heap.size V W) := HB.out.trans (hBW.mono HB.out.size)
      have HX : Hid (∀ w2, Below W.heap.size W w2 → w2.cell? ⟨wr.heap.size, 0, none⟩ = some (.int .i64 kind)) := fun w2 hb => by
        have := (hb.block wr.heap.size (by omega)).trans hWE
        simp [World.cell?, this]
      rw [hcb] at hcr
      have HR := hidG hcr
      have HC := hidG hc
      have HWW := hidG hW
      have HLT := hidG hlt
      clear he hbl hW hBW hWE hWs hcb hcr hc hk HB HBw
      go_wp2_with fail
      rw [HWW.out]
      refine cC.mono ?_
      rintro e9 w2 ⟨rfl, hb2⟩
      have HB2 : Hid (Below V.heap.size V w2) := HBW.out.trans (hb2.mono HBW.out.size)
      have q0 := HX.out w2 hb2
      clear hb2 cC c0 c1 c2 c3 c4 c5 c6 c7 HX HBW HWW
      cases cb with
      | true =>
        have HN : Hid (cntR l (k + 1) = c + 1) := by show _ = _; rw [cntR_yes (HR.out.trans rfl), HC.out]
        go_wp2_with fail
        go_roundw
        case rel => exact ⟨k + 1, by rw [HN.out]; go_num, by go_num, HLT.out, HB2⟩
        case measure => simp [intOf]; omega
      | false =>
        by_cases h5 : kind = 5
        · have t5 : (kind == 5) = true := by rw [h5]; rfl
          have HN : Hid (cntR l (k + 1) = c + 1) := by show _ = _; rw [cntR_yes (HR.out.trans (by rw [h5]; rfl)), HC.out]
          clear h5 HR
          go_wp2_with fail
          go_roundw
          case rel => exact ⟨k + 1, by rw [HN.out]; go_num, by go_num, HLT.out, HB2⟩
          case measure => simp [intOf]; omega
        · have t5 : (kind == 5) = false := by rw [beq_eq_false_iff_ne]; exact h5
          have HN : Hid (cntR l (k + 1) = c) := by show _ = _; rw [cntR_no (HR.out.trans (by rw [decide_eq_false h5]; rfl)), HC.out]
          clear h5 HR
          go_wp2_with fail
          go_roundw
          case rel => exact ⟨k + 1, by rw [HN.out], by go_num, HLT.out, HB2⟩
          case measure => simp [intOf]; omega
    · obtain rfl : k = l.length := by omega
      have hge : ¬ (l.length : Int) < (l.length : Int) := by omega
      obtain ⟨wb, hwb⟩ : ∃ b, whole l = b := ⟨_, rfl⟩
      have cW := spec_whole wr _ l (HV.out.stays HBw.out) HT.out wb hwb
      have HWB := hidG hwb
      have HC := hidG hc
      clear hwb hc hk hlt HBw
      go_wp2_with fail
      refine cW.mono ?_
      rintro e9 w1 ⟨rfl, hb1⟩
      have HB1 : Hid (Below V.heap.size V w1) := HB.out.trans (hb1.mono HB.out.size)
      have HBF : Hid (Below w.heap.size w w1) := HB0.out.trans (HB1.out.mono HB0.out.size)
      have hq := HQ.out w1 HB1.out
      have HQ1 := hidG hq
      have q0 := n2_0 hq
      have q1 := n2_1 hq
      have q2 := n2_f hq 0
      have q3 := n2_f hq 1
      clear hb1 cW HB hq
      cases wb with
      | false =>
        have HO := hidG (com_no HG.out (fun h => by rw [HWB.out] at h; exact absurd h.1 (by decide)))
        go_wp2_with fail
        have hF := n2_set1 (n2_set0 HQ1.out (.slice none 0 0)) (.slice none 0 0)
        try simp only [Exit.inBlock, Exit.then]
        refine bodyPost_ret (results_row_bool rfl _ _ w.heap.size 27 _ (0, 0) _ _ rfl rfl hF Try.underlying27 rfl (by kernel_rfl)) rfl ?_
        exact com_none HO.out ((HBF.out.setCell (Nat.le_refl _) _).setCell (Nat.le_refl _) _)
      | true =>
        by_cases hc3 : 3000 < c
        · have hc3I : (c : Int) > 3000 := by omega
          have HO := hidG (com_no HG.out (fun h => by have h2 := h.2; rw [HC.out] at h2; omega))
          clear hc3
          go_wp2_with fail
          have hF := n2_set1 (n2_set0 HQ1.out (.slice none 0 0)) (.slice none 0 0)
          try simp only [Exit.inBlock, Exit.then]
          refine bodyPost_ret (results_row_bool rfl _ _ w.heap.size 27 _ (0, 0) _ _ rfl rfl hF Try.underlying27 rfl (by kernel_rfl)) rfl ?_
          exact com_none HO.out ((HBF.out.setCell (Nat.le_refl _) _).setCell (Nat.le_refl _) _)
        · have hc3I : ¬ (c : Int) > 3000 := by omega
          have HO := hidG (com_yes HG.out ⟨HWB.out, by rw [HC.out]; omega⟩)
          obtain ⟨ti, hti, hz0, hz1, hz2⟩ := info_parts infoIt
          have hmk : ∀ w : World, (Instr.makeSlice 25 (.int .i64 (l.length : Int)) (.int .i64 (l.length : Int))).run Try.prog w = .ok (.slice (some ⟨w.heap.size, 0, none⟩) l.length l.length) (w.alloc (.cells (madeCells #[.int .i64 0] l.length) 3)) := by
            intro w
            have := run_make (P := Try.prog) w 25 3 ti _ Try.underlying25 hti hz0 .i64 .i64 l.length l.length (by omega) (Int.le_refl _) (by rw [hz2]; omega) (by omega)
            rw [hz1, Nat.mul_one] at this
            simpa [Value.cells] using this
          clear hti hz0 hz1 hz2 hc3
          obtain ⟨W, hW⟩ : ∃ W, (w1.alloc (.cells #[.slice none 0 0, .slice none 0 0] 27)).alloc (.cells (madeCells #[.int .i64 0] l.length) 3) = W := ⟨_, rfl⟩
          have hBW : Below w1.heap.size w1 W := by rw [← hW]; exact ((Below.refl _ w1).alloc (Nat.le_refl _) _).alloc (by simp) _
          have hWs : W.heap.size = w1.heap.size + 2 := by rw [← hW]; simp
          obtain ⟨R, hR⟩ : ∃ R, rootsOf l = R := ⟨_, rfl⟩
          have cR := spec_rootsOf W _ l (HV.out.stays (HBF.out.trans (hBW.mono HBF.out.size))) HT.out R hR
          have HRL : Hid (R.length ≤ 1048576) := by show _ ≤ _; rw [← hR]; have := rootsTo_len l l.length; unfold rootsOf; omega
          have hRI : (R.length : Int) ≤ 1048576 := by have := HRL.out; omega
          have HRO := hidG hR
          have HWW := hidG hW
          have HWs := hidG hWs
          have HS1 : Hid (SlE w1 (.slice la l.length lc) l) := HV.out.stays HBF.out
          clear hW hBW hWs hR q0 q1 q2 q3
          go_wp2_with fail
          rw [HWW.out]
          refine cR.mono ?_
          rintro e9 x ⟨ra, rn, rc, rfl, hrow, hbx⟩
          obtain rfl := slenC hrow
          have HR0 : Hid (RsAt w1 l R W.heap.size (.slice ra R.length rc) 0 x) := rs_start w1 l (whole_parts HWB.out).1 (by omega) x R W.heap.size _ W HWW.out hbx hrow (by rw [HWs.out]; exact Nat.le_refl _)
          clear hrow hbx cR hmk
          go_wp2_with fail
          go_loopw [45] (fun jv wr => ∃ j : Nat, jv = .int .i64 (j : Int) ∧ j ≤ R.length ∧ Hid (RsAt w1 l R W.heap.size (.slice ra R.length rc) j wr)) (fun jv _ => R.length - (intOf jv).toNat)
          case atStart => exact ⟨0, rfl, Nat.zero_le _, HR0⟩
          case round =>
            clear HR0
            obtain ⟨j, rfl, hj, HRS⟩ := hrel
            by_cases hjl : j < R.length
            · have hjI : (j : Int) < (R.length : Int) := by omega
              obtain ⟨r, hr⟩ : ∃ r, R[j]? = some r := ⟨_, List.getElem?_eq_getElem hjl⟩
              obtain ⟨b, rfl, d0⟩ := rs_cell HRS.out.row hr
              have cP := rs_step HS1.out HWB.out (by omega) HRO.out HRS.out hr
              generalize numI l r = nu at cP
              have HJ := hidG hjl
              clear hr hj hjl
              go_wp2_with fail
              refine cP.mono ?_
              rintro e9 w3 ⟨m, rv, a, n, c, w5, rfl, p1, pB, hrun5, p5, f5, hnext⟩
              have HN := hidG hnext
              clear hnext cP d0 HRS
              go_wp2_with (at_builtin; refine append_run rfl _ _ 25 rfl _ _ rfl rfl _ w5 hrun5 ?_)
              go_roundw
              case rel => exact ⟨j + 1, by go_num, HJ.out, HN⟩
              case measure => have := HJ.out; simp [intOf]; omega
            · have hjI : ¬ (j : Int) < (R.length : Int) := by omega
              obtain rfl : j = R.length := by omega
              obtain ⟨na, ka, nn, nc, kn, kc, vs, hE, hO⟩ := rs_end HWB.out HRO.out HRS.out
              have hBP := rs_below HRS.out
              have hq := HQ.out wr (HB1.out.trans (hBP.mono HB1.out.size))
              have q0 := n2_0 hq
              have q1 := n2_1 hq
              have q2 := n2_f hq 0
              have q3 := n2_f hq 1
              have g0 := n2_0 hE
              have g1 := n2_1 hE
              have HQ1 := hidG hq
              have HOW := hidG hO
              have HBP := hidG (HBF.out.trans (hBP.mono HBF.out.size))
              have HPB : Hid (w.heap.size < w1.heap.size) := by show _ < _; have h1 := HS0.out; have h2 := HB1.out.size; omega
              clear hBP hq hE hO hj hjl HRS
              go_wp2_with fail
              have hF := n2_set1 (n2_set0 HQ1.out (.slice na nn nc)) (.slice ka kn kc)
              try simp only [Exit.inBlock, Exit.then]
              refine bodyPost_ret (results_row_bool rfl _ _ w.heap.size 27 _ (0, 0) _ _ rfl rfl hF Try.underlying27 rfl (by kernel_rfl)) rfl ?_
              obtain ⟨rfl, rfl⟩ := HO.out
              exact ⟨⟨_, _, rfl, ⟨_, _, _, rfl⟩, ⟨_, _, _, rfl⟩, ((HOW.out.setLow HPB.out _ _).setLow HPB.out _ _).at⟩, (HBP.out.setCell (Nat.le_refl _) _).setCell (Nat.le_refl _) _⟩
end Go.Proofs.Ytkdlakcmhdiojaa
