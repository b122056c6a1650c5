/- Several texts in one: Gcm Sne Sdf. -/
import Derived.Test.YtkdlakcmhdiojaaZqad
import Derived.Test.YtkdlakcmhdiojaaZqai
import Derived.Test.YtkdlakcmhdiojaaZqag
import Derived.Test.YtkdlakcmhdiojaaZqab
import Derived.Test.YtkdlakcmhdiojaaZqaa
import Derived.LoopN
import Derived.OwnWalk
import Derived.WalkMore
import Derived.BigQuiet
import Derived.Deep.DeepCutAuto
/- Compose by the specification, in memory: its state, and how it is stepped. -/
namespace Go.Proofs.Ytkdlakcmhdiojaa
open Go.ChangeShapes Go.WideShapes Go.ChangeAt Go.RowKit Go.Deep
/-- One node comes behind a list of the call's own. -/
theorem push_nd (w : World) (lo : Nat) (v : Value) (ns : List Nd) (vs : List Value) (n : Nd) (hv : vs.length = ns.length) (hown : w.ownsRow lo 70 4 v ns.length (cellsN ns vs)) (hl : ns.length ≤ 100000000) (hlo : lo ≤ w.heap.size) :
    ∃ a m c w', (Builtin.append_ #[24, 24] 24 #[v, .slice (some ⟨w.heap.size, 0, none⟩) 1 1]).run Try.prog (w.alloc (.cells (knV n (.slice none 0 0)) 70)) = .ok (.slice a m c) w' ∧ w'.ownsRow lo 70 4 (.slice a m c) (ns ++ [n]).length (cellsN (ns ++ [n]) (vs ++ [.slice none 0 0])) ∧ Below lo w w' ∧ (∀ b, b < w.heap.size → v.ownBlock ≠ some b → w'.heap[b]? = w.heap[b]?) := by
  obtain ⟨v5, w5, hrun5, hsl5, hown5, hbel5, hot5, hid5⟩ := push_own2 (P := Try.prog) Try.underlying24 infoNd rfl (by decide) w lo v ns.length (cellsN ns vs) hown (knV n (.slice none 0 0)) rfl (fun u hu => by
    unfold knV at hu
    simp at hu
    rcases hu with rfl | rfl | rfl | rfl <;> rfl) hl (by omega) hlo 24
  obtain ⟨a5, n5, c5, rfl⟩ := hsl5
  refine ⟨a5, n5, c5, w5, hrun5, ?_, hbel5, hot5⟩
  rw [List.length_append, cellsN_snoc ns vs n _ hv]
  exact hown5
/-- The state: the graph's block B, its nodes, the row A of numbers. -/
structure CsAt (P0 : World) (B A N : Nat) (rv : Value) (ns : List Nd) (ats : List Int) (vs : List Value) (w : World) : Prop where
  box : ∃ (na : Option Addr) (nn nc : Nat), w.heap[B]? = some (.cells #[.slice na nn nc, rv] 27 (0, 0)) ∧ w.ownsRow P0.heap.size 70 4 (.slice na nn nc) ns.length (cellsN ns vs)
  kids : KidsOwn P0.heap.size w vs ns
  nums : w.ownsRow P0.heap.size 3 1 (.slice (some ⟨A, 0, none⟩) N N) N (ilV ats)
  apart : ∀ (i : Nat) (v : Value), vs[i]? = some v → v.ownBlock ≠ some A
  lo : P0.heap.size ≤ B
  below : Below P0.heap.size P0 w
/-- What a call leaves of lists of numbers beside the state's own: all of them. -/
def FrI (A : Nat) (w w' : World) : Prop := w.heap.size ≤ w'.heap.size ∧ ∀ (x : Nat) (cs : Array Value) (fr : Nat × Nat), w.heap[x]? = some (.cells cs 3 fr) → x ≠ A → w'.heap[x]? = some (.cells cs 3 fr)
theorem FrI.of {A : Nat} {w w' : World} (h : Below w.heap.size w w') : FrI A w w' := ⟨h.size, fun x _ _ hx _ => (h.block x (Array.getElem?_eq_some_iff.1 hx).1).trans hx⟩
theorem FrI.trans {A : Nat} {a b c : World} (h : FrI A a b) (k : FrI A b c) : FrI A a c := ⟨Nat.le_trans h.1 k.1, fun x cs fr hx hn => k.2 x cs fr (h.2 x cs fr hx hn) hn⟩
theorem FrI.row {A : Nat} {w w' : World} (h : FrI A w w') {lo : Nat} {v : Value} {n : Nat} {xs : List Value} (hr : w.ownsRow lo 3 1 v n xs) (ha : v.ownBlock ≠ some A) : w'.ownsRow lo 3 1 v n xs :=
  g_row_block hr (fun x hx => by
    obtain ⟨cs, fr, e⟩ := own_type hr hx
    rw [e]
    exact h.2 x cs fr e (fun e2 => ha (by rw [hx, e2])))
theorem own_neC {w : World} {lo e sz : Nat} {v : Value} {n : Nat} {xs : List Value} (h : w.ownsRow lo e sz v n xs) {x : Nat} (hx : v.ownBlock = some x) {b : Nat} {cs : Array Value} {t : TypeId} {fr : Nat × Nat} (hb : w.heap[b]? = some (.cells cs t fr)) (hne : t ≠ e) : x ≠ b := fun e2 => row_apart h hb hne (by rw [hx, e2])
theorem cellsN_kids : ∀ (ns : List Nd) (vs : List Value) (j : Nat) (n : Nd) (v kv : Value) (ks : List Int), ns[j]? = some n → vs[j]? = some v → (cellsN ns vs).set (j * 4 + 3) kv = cellsN (ns.set j { n with kids := ks }) (vs.set j kv)
  | [], _, j, _, _, _, _, h, _ => by simp at h
  | _ :: _, [], j, _, _, _, _, _, h => by simp at h
  | a :: t, x :: y, 0, n, v, kv, ks, h, _ => by
    obtain rfl : a = n := by simpa using h
    rfl
  | a :: t, x :: y, j + 1, n, v, kv, ks, h, h' => by
    have := cellsN_kids t y j n v kv ks (by simpa using h) (by simpa using h')
    rw [List.set_cons_succ, List.set_cons_succ, cellsN, cellsN, show (j + 1) * 4 + 3 = (j * 4 + 3) + 4 by omega]
    simp only [List.set_cons_succ]
    rw [this]
section
variable {P0 w w' : World} {B A N : Nat} {rv : Value} {ns : List Nd} {ats : List Int} {vs : List Value}
theorem CsAt.stays (h : CsAt P0 B A N rv ns ats vs w) (hb : Below w.heap.size w w') : CsAt P0 B A N rv ns ats vs w' := by
  obtain ⟨na, nn, nc, h1, h2⟩ := h.box
  exact ⟨⟨na, nn, nc, (hb.block B (Array.getElem?_eq_some_iff.1 h1).1).trans h1, g_row_below h2 hb⟩, h.kids.later hb, g_row_below h.nums hb, h.apart, h.lo, h.below.trans (hb.mono h.below.size)⟩
theorem CsAt.num (h : CsAt P0 B A N rv ns ats vs w) {i : Nat} (hi : i < ats.length) (x : Int) : CsAt P0 B A N rv ns (ats.set i x) vs (w.setCell ⟨A, i, none⟩ (.int .i64 x)) ∧ FrI A w (w.setCell ⟨A, i, none⟩ (.int .i64 x)) := by
  obtain ⟨na, nn, nc, h1, h2⟩ := h.box
  obtain ⟨cs, fr, hA⟩ := own_type h.nums (x := A) rfl
  have hAB : A ≠ B := own_neC h.nums rfl h1 (by decide)
  refine ⟨⟨⟨na, nn, nc, (heap_setCell_other _ _ _ _ (Ne.symm hAB)).trans h1, row_set h2 (row_apart h2 hA (by decide)) _ _⟩, h.kids.block (fun k v y hv hy => heap_setCell_other _ _ _ _ (fun e => h.apart k v hv (by rw [hy, e]))), ?_, h.apart, h.lo, h.below.setCell (h.nums.lt A rfl).1 _⟩, by simp [World.setCell], fun y cs fr hy hn => (heap_setCell_other _ _ _ _ hn).trans hy⟩
  have := own_setX h.nums i (.int .i64 x) (by rw [ilV_len]; exact hi)
  rw [show (ilV ats).set i (.int .i64 x) = ilV (ats.set i x) by unfold ilV; rw [List.map_set]] at this
  exact this
theorem CsAt.push (h : CsAt P0 B A N rv ns ats vs w) {n : Nd} (hk : n.kids = []) {na a : Option Addr} {nn nc m c : Nat} {w5 : World} (h1 : w.heap[B]? = some (.cells #[.slice na nn nc, rv] 27 (0, 0))) (h2 : w.ownsRow P0.heap.size 70 4 (.slice na nn nc) ns.length (cellsN ns vs))
    (hown : w5.ownsRow P0.heap.size 70 4 (.slice a m c) (ns ++ [n]).length (cellsN (ns ++ [n]) (vs ++ [.slice none 0 0]))) (hbel : Below P0.heap.size w w5) (hot : ∀ b, b < w.heap.size → (Value.slice na nn nc).ownBlock ≠ some b → w5.heap[b]? = w.heap[b]?) :
    CsAt P0 B A N rv (ns ++ [n]) ats (vs ++ [.slice none 0 0]) (w5.setCell ⟨B, 0, none⟩ (.slice a m c)) ∧ FrI A w (w5.setCell ⟨B, 0, none⟩ (.slice a m c)) ∧ w5.cell? ⟨B, 0, none⟩ = some (.slice na nn nc) ∧ w5.frozen? ⟨B, 0, none⟩ = false := by
  have hB := (Array.getElem?_eq_some_iff.1 h1).1
  obtain ⟨cs, fr, hA⟩ := own_type h.nums (x := A) rfl
  have hAB : A ≠ B := own_neC h.nums rfl h1 (by decide)
  have k1 : w5.heap[B]? = some (.cells #[.slice na nn nc, rv] 27 (0, 0)) := (hot B hB (row_apart h2 h1 (by decide))).trans h1
  have hti : ∀ (x : Nat) (cs : Array Value) (fr : Nat × Nat), w.heap[x]? = some (.cells cs 3 fr) → (w5.setCell ⟨B, 0, none⟩ (.slice a m c)).heap[x]? = some (.cells cs 3 fr) := fun x cs fr hx => by
    have hxB : x ≠ B := fun e => by
      subst e
      rw [h1] at hx
      injection hx with hx
      injection hx with _ hx
      exact absurd hx (by decide)
    exact (heap_setCell_other _ _ _ _ hxB).trans ((hot x (Array.getElem?_eq_some_iff.1 hx).1 (row_apart h2 hx (by decide))).trans hx)
  have hkid : KidsOwn P0.heap.size (w5.setCell ⟨B, 0, none⟩ (.slice a m c)) vs ns := h.kids.block (fun i v x hv hx => by
    obtain ⟨p, hp⟩ := h.kids.get hv
    obtain ⟨cs, fr, e⟩ := own_type (h.kids.own i v p hv hp) hx
    rw [e]
    exact hti x cs fr e)
  refine ⟨⟨⟨a, m, c, n2_set0 k1 _, row_set hown (row_apart hown k1 (by decide)) _ _⟩, ⟨?_, fun i v p hv hp => ?_, fun i j x y b hij hx hy hb => ?_⟩, g_row_block h.nums (fun x hx => ?_), fun i v hv => ?_, h.lo, (h.below.trans hbel).setCell h.lo _⟩, ⟨by have := hbel.size; simp [World.setCell]; exact this, fun x cs fr hx _ => hti x cs fr hx⟩, n2_0 k1, n2_f k1 0⟩
  · rw [List.length_append, List.length_append, h.kids.len]
    rfl
  · by_cases hi : i < vs.length
    · rw [List.getElem?_append_left hi] at hv
      rw [List.getElem?_append_left (by rw [← h.kids.len]; exact hi)] at hp
      exact hkid.own i v p hv hp
    · have hil := (List.getElem?_eq_some_iff.1 hv).1
      rw [List.length_append, List.length_singleton] at hil
      obtain rfl : i = vs.length := by omega
      rw [List.getElem?_append_right (Nat.le_refl _), Nat.sub_self] at hv
      rw [List.getElem?_append_right (by rw [h.kids.len]; exact Nat.le_refl _), h.kids.len, Nat.sub_self] at hp
      obtain rfl : Value.slice none 0 0 = v := by simpa using hv
      obtain rfl : n = p := by simpa using hp
      rw [hk]
      exact ⟨rfl, .inl ⟨rfl, rfl⟩⟩
  · by_cases hj : j < vs.length
    · rw [List.getElem?_append_left hj] at hy
      rw [List.getElem?_append_left (by omega)] at hx
      exact hkid.apart i j x y b hij hx hy hb
    · have hjl := (List.getElem?_eq_some_iff.1 hy).1
      rw [List.length_append, List.length_singleton] at hjl
      obtain rfl : j = vs.length := by omega
      rw [List.getElem?_append_right (Nat.le_refl _), Nat.sub_self] at hy
      obtain rfl : Value.slice none 0 0 = y := by simpa using hy
      simp [Value.ownBlock]
  · obtain ⟨cs, fr, e⟩ := own_type h.nums hx
    rw [e]
    exact hti x cs fr e
  · by_cases hi : i < vs.length
    · rw [List.getElem?_append_left hi] at hv
      exact h.apart i v hv
    · have hil := (List.getElem?_eq_some_iff.1 hv).1
      rw [List.length_append, List.length_singleton] at hil
      obtain rfl : i = vs.length := by omega
      rw [List.getElem?_append_right (Nat.le_refl _), Nat.sub_self] at hv
      obtain rfl : Value.slice none 0 0 = v := by simpa using hv
      simp [Value.ownBlock]
/-- The kids of a node are laid into it. -/
theorem CsAt.kid (h : CsAt P0 B A N rv ns ats vs w) {j : Nat} {n : Nd} (hn : ns[j]? = some n) {nb nn nc : Nat} (h1 : w.heap[B]? = some (.cells #[.slice (some ⟨nb, 0, none⟩) nn nc, rv] 27 (0, 0))) (h2 : w.ownsRow P0.heap.size 70 4 (.slice (some ⟨nb, 0, none⟩) nn nc) ns.length (cellsN ns vs)) (hnn : nn = ns.length)
    {kv : Value} {ks : List Int} (hr : w.ownsRow P0.heap.size 3 1 kv ks.length (ilV ks)) (hA : kv.ownBlock ≠ some A) (hv : ∀ (i : Nat) (v : Value) (x : Nat), vs[i]? = some v → v.ownBlock = some x → kv.ownBlock ≠ some x) :
    CsAt P0 B A N rv (ns.set j { n with kids := ks }) ats (vs.set j kv) (w.setCell ⟨nb, j * 4 + 3, none⟩ kv) ∧ FrI A w (w.setCell ⟨nb, j * 4 + 3, none⟩ kv) := by
  subst hnn
  have hj := (List.getElem?_eq_some_iff.1 hn).1
  obtain ⟨v, hvj⟩ : ∃ v, vs[j]? = some v := ⟨_, List.getElem?_eq_getElem (by rw [h.kids.len]; exact hj)⟩
  obtain ⟨cn, fn, hnb⟩ := own_type h2 (x := nb) rfl
  have hnB : nb ≠ B := own_neC h2 rfl h1 (by decide)
  have hti : ∀ (x : Nat) (cs : Array Value) (fr : Nat × Nat), w.heap[x]? = some (.cells cs 3 fr) → (w.setCell ⟨nb, j * 4 + 3, none⟩ kv).heap[x]? = some (.cells cs 3 fr) := fun x cs fr hx => by
    have hxB : x ≠ nb := fun e => by
      subst e
      rw [hnb] at hx
      injection hx with hx
      injection hx with _ hx
      exact absurd hx (by decide)
    exact (heap_setCell_other _ _ _ _ hxB).trans hx
  have hkid : KidsOwn P0.heap.size (w.setCell ⟨nb, j * 4 + 3, none⟩ kv) vs ns := h.kids.setB h2 _ _
  have hcl : (cellsN ns vs).length = ns.length * 4 := cellsN_len _ _ h.kids.len
  have hrow := own_setX h2 (j * 4 + 3) kv (by rw [hcl]; omega)
  rw [cellsN_kids ns vs j n v kv ks hn hvj] at hrow
  have hr' : (w.setCell ⟨nb, j * 4 + 3, none⟩ kv).ownsRow P0.heap.size 3 1 kv ks.length (ilV ks) := row_set hr (row_apart hr hnb (by decide)) _ _
  refine ⟨⟨⟨_, _, _, (heap_setCell_other _ _ _ _ (Ne.symm hnB)).trans h1, ?_⟩, ⟨by rw [List.length_set, List.length_set]; exact h.kids.len, fun i u p hu hp => ?_, fun i q x y b hiq hx hy hb => ?_⟩, row_set h.nums (row_apart h.nums hnb (by decide)) _ _, fun i u hu => ?_, h.lo, h.below.setCell (h2.lt nb rfl).1 _⟩, by simp [World.setCell], fun x cs fr hx _ => hti x cs fr hx⟩
  · rw [List.length_set]
    exact hrow
  · by_cases e : j = i
    · subst e
      rw [List.getElem?_set_self (List.getElem?_eq_some_iff.1 hvj).1] at hu
      rw [List.getElem?_set_self hj] at hp
      obtain rfl := Option.some.inj hu
      obtain rfl := Option.some.inj hp
      exact hr'
    · rw [List.getElem?_set_ne e] at hu hp
      exact hkid.own i u p hu hp
  · by_cases e : j = i
    · subst e
      rw [List.getElem?_set_self (List.getElem?_eq_some_iff.1 hvj).1] at hx
      rw [List.getElem?_set_ne (by omega)] at hy
      obtain rfl := Option.some.inj hx
      exact fun e2 => hv q y b hy e2 hb
    · rw [List.getElem?_set_ne e] at hx
      by_cases e3 : j = q
      · subst e3
        rw [List.getElem?_set_self (List.getElem?_eq_some_iff.1 hvj).1] at hy
        obtain rfl := Option.some.inj hy
        exact hv i x b hx hb
      · rw [List.getElem?_set_ne e3] at hy
        exact hkid.apart i q x y b hiq hx hy hb
  · by_cases e : j = i
    · subst e
      rw [List.getElem?_set_self (List.getElem?_eq_some_iff.1 hvj).1] at hu
      obtain rfl := Option.some.inj hu
      exact hA
    · rw [List.getElem?_set_ne e] at hu
      exact h.apart i u hu
end
end Go.Proofs.Ytkdlakcmhdiojaa
/- The specification's nodes within events: where a node ends. -/
namespace Go.Proofs.Ytkdlakcmhdiojaa
open Go.ChangeShapes Go.WideShapes Go.ChangeAt Go.RowKit
theorem ret_i {a b : Int} (h : a = b) : Ending.returned (.int .i64 a) = .returned (.int .i64 b) := by rw [h]
theorem ret_b {a b : Bool} (h : a = b) : Ending.returned (.bool a) = .returned (.bool b) := by rw [h]
theorem coll_any (e : Ev) (w : World) (r : Bool) (hr : colE e = r) :
    Calls Try.prog 20 #[.agg #[.int .i64 e.kind, .int .i64 e.style, .bool e.flag, .string e.text, .string e.anchor, .string e.tag, .int .i64 e.at_, .int .i64 e.code]] w fun e' w' => e' = .returned (.bool r) ∧ Below w.heap.size w w' := by
  have HB : Hid (Below w.heap.size w (w.alloc (.cells #[.int .i64 e.kind, .int .i64 e.style, .bool e.flag, .string e.text, .string e.anchor, .string e.tag, .int .i64 e.at_, .int .i64 e.code] 47))) := (Below.refl _ w).alloc (Nat.le_refl _) _
  have HR : Hid (colE e = r) := hr
  clear hr
  by_cases h3 : e.kind = 3
  · have t3 : (e.kind == 3) = true := by rw [h3]; rfl
    have HO : Hid (true = r) := by show _ = _; rw [← HR.out]; unfold colE; rw [decide_eq_true h3]; rfl
    clear h3
    go_enter Try.func20, Try.ntmps20
    go_wp2_with fail
    go_ret
    exact ⟨ret_b HO.out, HB.out⟩
  · have t3 : (e.kind == 3) = false := by rw [beq_eq_false_iff_ne]; exact h3
    by_cases h4 : e.kind = 4
    · have t4 : (e.kind == 4) = true := by rw [h4]; rfl
      have HO : Hid (true = r) := by show _ = _; rw [← HR.out]; unfold colE; rw [decide_eq_true h4]; simp
      clear h3 h4
      go_enter Try.func20, Try.ntmps20
      go_wp2_with fail
      go_ret
      exact ⟨ret_b HO.out, HB.out⟩
    · have t4 : (e.kind == 4) = false := by rw [beq_eq_false_iff_ne]; exact h4
      have HO : Hid (false = r) := by show _ = _; rw [← HR.out]; unfold colE; rw [decide_eq_false h3, decide_eq_false h4]; rfl
      clear h3 h4
      go_enter Try.func20, Try.ntmps20
      go_wp2_with fail
      go_ret
      exact ⟨ret_b HO.out, HB.out⟩
theorem node_any (e : Ev) (w : World) (r : Bool) (hr : nodE e = r) :
    Calls Try.prog 43 #[.agg #[.int .i64 e.kind, .int .i64 e.style, .bool e.flag, .string e.text, .string e.anchor, .string e.tag, .int .i64 e.at_, .int .i64 e.code]] w fun e' w' => e' = .returned (.bool r) ∧ Below w.heap.size w w' := by
  have HB : Hid (Below w.heap.size w (w.alloc (.cells #[.int .i64 e.kind, .int .i64 e.style, .bool e.flag, .string e.text, .string e.anchor, .string e.tag, .int .i64 e.at_, .int .i64 e.code] 47))) := (Below.refl _ w).alloc (Nat.le_refl _) _
  have HR : Hid (nodE e = r) := hr
  clear hr
  by_cases h3 : 3 ≤ e.kind
  · have t3 : e.kind ≥ 3 := h3
    by_cases h6 : e.kind ≤ 6
    · have HO : Hid (true = r) := by show _ = _; rw [← HR.out]; unfold nodE; rw [decide_eq_true h3, decide_eq_true h6]; rfl
      go_enter Try.func43, Try.ntmps43
      go_wp2_with fail
      go_ret
      exact ⟨ret_b HO.out, HB.out⟩
    · have HO : Hid (false = r) := by show _ = _; rw [← HR.out]; unfold nodE; rw [decide_eq_false h6]; simp
      go_enter Try.func43, Try.ntmps43
      go_wp2_with fail
      go_ret
      exact ⟨ret_b HO.out, HB.out⟩
  · have HO : Hid (false = r) := by show _ = _; rw [← HR.out]; unfold nodE; rw [decide_eq_false h3]; rfl
    have t3 : ¬ e.kind ≥ 3 := h3
    go_enter Try.func43, Try.ntmps43
    go_wp2_with fail
    go_ret
    exact ⟨ret_b HO.out, HB.out⟩
set_option maxRecDepth 100000 in
set_option maxHeartbeats 8000000 in
theorem end_any (w : World) (v : Value) (es : List Ev) (hV : SlE w v es) (hl : es.length ≤ 1048576) (i : Nat) (hi : i < es.length) (r : Int) (hr : endN es i = r) :
    Calls Try.prog 57 #[v, .int .i64 (i : Int)] w fun e w' => e = .returned (.int .i64 r) ∧ Below w.heap.size w w' := by
  obtain ⟨a, c, rfl⟩ := hV.sl
  have HV : Hid (SlE w (.slice a es.length c) es) := hV
  obtain ⟨e0, he0⟩ : ∃ e0, es[i]? = some e0 := ⟨_, List.getElem?_eq_getElem hi⟩
  obtain ⟨b, off, rfl, hbl, hE⟩ := hV.at (Below.refl _ w) he0
  have HBL : Hid (b < w.heap.size) := hbl
  obtain ⟨n0, hn0⟩ : ∃ n0, nodE e0 = n0 := ⟨_, rfl⟩
  have HR : Hid ((if n0 = false then -1 else endG (es.drop i) i 0) = r) := by show _ = _; rw [← hr]; unfold endN; rw [he0]; show _ = (if nodE e0 = false then -1 else endG (es.drop i) i 0); rw [hn0]
  have cN := fun w' => node_any e0 w' n0 hn0
  obtain ⟨d0, d1, d2, d3, d4, d5, d6, d7⟩ := hE
  have hi' : (i : Int) < (es.length : Int) := by omega
  have hl' : (es.length : Int) ≤ 1048576 := by omega
  have HI : Hid (i < es.length) := hi
  clear hV hbl he0 hn0 hr hi
  go_enter Try.func57, Try.ntmps57
  go_wp2_with fail
  refine (cN _).mono ?_
  rintro e9 w1 ⟨rfl, hb1⟩
  have HB1 : Hid (Below w.heap.size w w1) := hb1
  clear hb1 cN d0 d1 d2 d3 d4 d5 d6 d7
  cases n0 with
  | false =>
    have HO : Hid ((-1 : Int) = r) := HR.out
    go_wp2_with fail
    go_ret
    exact ⟨ret_i HO.out, HB1.out⟩
  | true =>
    have HO : Hid (endG (es.drop i) i 0 = r) := HR.out
    clear HR
    go_wp2_with fail
    go_loopw [5, 6] (fun ov kv wr => ∃ (k : Nat) (o : Int), ov = .int .i64 o ∧ kv = .int .i64 (k : Int) ∧ k ≤ es.length ∧ -(k : Int) ≤ o ∧ o ≤ (k : Int) ∧ Hid (endG (es.drop k) k o = r) ∧ Hid (Below w.heap.size w wr)) (fun _ kv _ => es.length - (intOf kv).toNat)
    case atStart => exact ⟨i, 0, rfl, rfl, Nat.le_of_lt HI.out, by omega, by omega, HO, HB1⟩
    case round =>
      obtain ⟨k, o, rfl, rfl, hk, ho1, ho2, HG, HB⟩ := hrel
      clear HO HB1
      by_cases hlt : k < es.length
      case neg =>
        obtain rfl : k = es.length := by omega
        have hlt' : ¬ (es.length : Int) < (es.length : Int) := by omega
        have HE : Hid ((-1 : Int) = r) := by show _ = _; rw [← HG.out, List.drop_length]; rfl
        go_wp2_with fail
        go_ret
        exact ⟨ret_i HE.out, HB.out⟩
      have hlt' : (k : Int) < (es.length : Int) := by omega
      obtain ⟨e, he⟩ : ∃ e, es[k]? = some e := ⟨_, List.getElem?_eq_getElem hlt⟩
      obtain ⟨b2, off2, e2, _, hE⟩ := HV.out.at HB.out he
      injection e2 with e2
      injection e2 with e2 e3 _
      subst e2
      subst e3
      have hdr := drop_ev he
      have hg := HG.out
      rw [hdr, endG] at hg
      have HG2 : Hid ((if opn e o = 0 then (k : Int) else endG (es.drop (k + 1)) (k + 1) (opn e o)) = r) := hg
      obtain ⟨cb, hcb⟩ : ∃ cb, colE e = cb := ⟨_, rfl⟩
      have cC := fun w' => coll_any e w' cb hcb
      have HEL : Hid (es[k]? = some e) := he
      have HCB : Hid (colE e = cb) := hcb
      obtain ⟨d0, d1, d2, d3, d4, d5, d6, d7⟩ := hE
      clear hdr hg he hcb
      go_wp2_with fail
      refine (cC _).mono ?_
      rintro e9 w2 ⟨rfl, hb2⟩
      have HB2 : Hid (Below w.heap.size w w2) := HB.out.trans (hb2.mono HB.out.size)
      clear hb2 cC d0 d1 d2 d3 d4 d5 d6 d7
      obtain ⟨b3, off3, e2, _, hE⟩ := HV.out.at HB2.out HEL.out
      injection e2 with e2
      injection e2 with e2 e3 _
      subst e2
      subst e3
      have d0 := hE.c0
      clear hE
      cases cb with
      | true =>
        have hk7 : (e.kind == 7) = false := by
          have h := HCB.out
          unfold colE at h
          rw [Bool.or_eq_true] at h
          rw [beq_eq_false_iff_ne]
          rcases h with h | h
          · have := of_decide_eq_true h; omega
          · have := of_decide_eq_true h; omega
        have HOP : Hid (opn e o = o + 1) := by show _ = _; unfold opn; rw [if_pos HCB.out]
        by_cases hz : o + 1 = 0
        · have tz : (o + 1 == 0) = true := by rw [hz]; rfl
          have HE : Hid ((k : Int) = r) := by show _ = _; rw [← HG2.out, if_pos (HOP.out.trans hz)]
          clear hz
          go_wp2_with fail
          go_ret
          exact ⟨ret_i HE.out, HB2.out⟩
        · have tz : (o + 1 == 0) = false := by rw [beq_eq_false_iff_ne]; exact hz
          have HE : Hid (endG (es.drop (k + 1)) (k + 1) (o + 1) = r) := by show _ = _; rw [← HG2.out, HOP.out, if_neg hz]
          clear hz
          go_wp2_with fail
          go_roundw
          case rel => exact ⟨k + 1, o + 1, rfl, by go_num, hlt, by omega, by omega, HE, HB2⟩
          case measure => simp [intOf]; omega
      | false =>
        by_cases h7 : e.kind = 7
        · have hk7 : (e.kind == 7) = true := by rw [h7]; rfl
          have HOP : Hid (opn e o = o - 1) := by show _ = _; unfold opn; rw [if_neg (by rw [HCB.out]; simp), if_pos h7]
          clear h7
          by_cases hz : o - 1 = 0
          · have tz : (o - 1 == 0) = true := by rw [hz]; rfl
            have HE : Hid ((k : Int) = r) := by show _ = _; rw [← HG2.out, if_pos (HOP.out.trans hz)]
            clear hz
            go_wp2_with fail
            go_ret
            exact ⟨ret_i HE.out, HB2.out⟩
          · have tz : (o - 1 == 0) = false := by rw [beq_eq_false_iff_ne]; exact hz
            have HE : Hid (endG (es.drop (k + 1)) (k + 1) (o - 1) = r) := by show _ = _; rw [← HG2.out, HOP.out, if_neg hz]
            clear hz
            go_wp2_with fail
            go_roundw
            case rel => exact ⟨k + 1, o - 1, rfl, by go_num, hlt, by omega, by omega, HE, HB2⟩
            case measure => simp [intOf]; omega
        · have hk7 : (e.kind == 7) = false := by rw [beq_eq_false_iff_ne]; exact h7
          have HOP : Hid (opn e o = o) := by show _ = _; unfold opn; rw [if_neg (by rw [HCB.out]; simp), if_neg h7]
          clear h7
          by_cases hz : o = 0
          · have tz : (o == 0) = true := by rw [hz]; rfl
            have HE : Hid ((k : Int) = r) := by show _ = _; rw [← HG2.out, if_pos (HOP.out.trans hz)]
            clear hz
            go_wp2_with fail
            go_ret
            exact ⟨ret_i HE.out, HB2.out⟩
          · have tz : (o == 0) = false := by rw [beq_eq_false_iff_ne]; exact hz
            have HE : Hid (endG (es.drop (k + 1)) (k + 1) o = r) := by show _ = _; rw [← HG2.out, HOP.out, if_neg hz]
            clear hz
            go_wp2_with fail
            go_roundw
            case rel => exact ⟨k + 1, o, rfl, by go_num, hlt, by omega, by omega, HE, HB2⟩
            case measure => simp [intOf]; omega
end Go.Proofs.Ytkdlakcmhdiojaa
/- The specification's nodes within events: the node of an alias. -/
namespace Go.Proofs.Ytkdlakcmhdiojaa
open Go.ChangeShapes Go.WideShapes Go.ChangeAt Go.RowKit
theorem ba_of_list {a b : ByteArray} (h : a.toList = b.toList) : a = b := by
  rw [ByteArray.toList_eq, ByteArray.toList_eq] at h
  have : a.data = b.data := by apply Array.ext'; exact h
  cases a; cases b; simp at this; rw [this]
set_option maxRecDepth 100000 in
set_option maxHeartbeats 8000000 in
theorem def_any (w : World) (v : Value) (es : List Ev) (hV : SlE w v es) (hl : es.length ≤ 1048576) (i : Nat) (hi : i < es.length) (r : Int) (hr : defN es i = r) :
    Calls Try.prog 45 #[v, .int .i64 (i : Int)] w fun e w' => e = .returned (.int .i64 r) ∧ Below w.heap.size w w' := by
  obtain ⟨a, c, rfl⟩ := hV.sl
  have HV : Hid (SlE w (.slice a es.length c) es) := hV
  obtain ⟨e0, he0⟩ : ∃ e0, es[i]? = some e0 := ⟨_, List.getElem?_eq_getElem hi⟩
  obtain ⟨b, off, rfl, hbl, hE0⟩ := hV.at (Below.refl _ w) he0
  have HBL : Hid (b < w.heap.size) := hbl
  have HT0 : Hid (w.cell? ⟨b, off + i * 8 + 3, none⟩ = some (.string e0.text)) := hE0.c3
  have HE0 : Hid (es[i]? = some e0) := he0
  obtain ⟨x, hx⟩ : ∃ x, e0.text = x := ⟨_, rfl⟩
  have HX : Hid (e0.text = x) := hx
  have HO : Hid (defG es i x i = r) := by show _ = _; rw [← hr]; unfold defN; rw [he0]; show _ = defG es i e0.text i; rw [hx]
  have hi' : (i : Int) < (es.length : Int) := by omega
  have hl' : (es.length : Int) ≤ 1048576 := by omega
  have HI : Hid (i < es.length ∧ es.length ≤ 1048576) := ⟨hi, hl⟩
  have HTX : Hid (w.cell? ⟨b, off + i * 8 + 3, none⟩ = some (.string x)) := by show _ = _; rw [← HX.out]; exact HT0.out
  clear hV hbl he0 hr hi hx hE0 HT0 HE0 HX
  go_enter Try.func45, Try.ntmps45
  go_wp2_with fail
  go_loopw [5] (fun kv wr => ∃ (k : Nat), kv = .int .i64 ((k : Int) - 1) ∧ k ≤ i ∧ Hid (defG es i x k = r) ∧ Hid (Below w.heap.size w wr)) (fun kv _ => (intOf kv + 1).toNat)
  case atStart => exact ⟨i, rfl, Nat.le_refl _, HO, Below.refl _ _⟩
  case round =>
    obtain ⟨k1, rfl, hk, HG, HB⟩ := hrel
    clear HO
    cases k1 with
    | zero =>
      have HE : Hid ((-1 : Int) = r) := HG.out
      have hlt' : ¬ ((0 : Nat) : Int) - 1 ≥ 0 := by omega
      go_wp2_with fail
      go_ret
      exact ⟨ret_i HE.out, HB.out⟩
    | succ k =>
      have hkk : ((k + 1 : Nat) : Int) - 1 = (k : Int) := by omega
      rw [hkk]
      have hk0 : (k : Int) ≥ 0 := by omega
      have hlt : k < es.length := by have := HI.out; omega
      have hlt' : (k : Int) < (es.length : Int) := by omega
      obtain ⟨e, he⟩ : ∃ e, es[k]? = some e := ⟨_, List.getElem?_eq_getElem hlt⟩
      have HEK : Hid (es[k]? = some e) := he
      obtain ⟨b2, off2, e2, _, hE⟩ := HV.out.at HB.out he
      injection e2 with e2
      injection e2 with e2 e3 _
      subst e2
      subst e3
      have hg := HG.out
      rw [defG, he] at hg
      have HG2 : Hid ((if e.kind = 2 then -1 else if namE e x = true then (if endN es k < 0 ∨ (i : Int) < endN es k then -1 else (k : Int)) else defG es i x k) = r) := hg
      have HK : Hid (k + 1 ≤ i) := hk
      obtain ⟨d0, d1, d2, d3, d4, d5, d6, d7⟩ := hE
      clear hg he hkk hk
      by_cases h2 : e.kind = 2
      · have tk : (e.kind != 2) = false := by rw [h2]; rfl
        have HE : Hid ((-1 : Int) = r) := by show _ = _; rw [← HG2.out, if_pos h2]
        clear h2
        go_wp2_with fail
        go_ret
        exact ⟨ret_i HE.out, HB.out⟩
      have tk : (e.kind != 2) = true := by rw [bne_iff_ne]; exact h2
      have HG3 : Hid ((if namE e x = true then (if endN es k < 0 ∨ (i : Int) < endN es k then -1 else (k : Int)) else defG es i x k) = r) := by show _ = _; rw [← HG2.out, if_neg h2]
      obtain ⟨nb, hnb⟩ : ∃ nb, nodE e = nb := ⟨_, rfl⟩
      have HNB : Hid (nodE e = nb) := hnb
      have cN : Hid (∀ w', Calls Try.prog 43 #[.agg #[.int .i64 e.kind, .int .i64 e.style, .bool e.flag, .string e.text, .string e.anchor, .string e.tag, .int .i64 e.at_, .int .i64 e.code]] w' fun e' w'' => e' = .returned (.bool nb) ∧ Below w'.heap.size w' w'') := fun w' => node_any e w' nb hnb
      clear h2 hnb HG2
      have HBR : Hid (b < wr.heap.size) := Nat.lt_of_lt_of_le HBL.out HB.out.size
      have x3 : wr.cell? ⟨b, off + i * 8 + 3, none⟩ = some (.string x) := (HB.out.cell (p := ⟨b, off + i * 8 + 3, none⟩) HBL.out).trans HTX.out
      have hcl : ∀ (m : Bw wr) j, m.val.cell? ⟨b, j, none⟩ = wr.cell? ⟨b, j, none⟩ := fun m j => m.ok.cell (p := ⟨b, j, none⟩) HBR.out
      have m0 := fun m => (hcl m _).trans d0
      have m1 := fun m => (hcl m _).trans d1
      have m2 := fun m => (hcl m _).trans d2
      have m3 := fun m => (hcl m _).trans d3
      have m4 := fun m => (hcl m _).trans d4
      have m5 := fun m => (hcl m _).trans d5
      have m6 := fun m => (hcl m _).trans d6
      have m7 := fun m => (hcl m _).trans d7
      have mx3 := fun m => (hcl m _).trans x3
      have hNc := Bw.calls (w := wr) (fun w' _ => cN.out w')
      have hne0 := Bw.some wr
      clear hcl d1 d2 d3 d4 d5 d6 d7 x3
      cases nb with
      | false =>
        have HE : Hid (defG es i x k = r) := by show _ = _; rw [← HG3.out, if_neg (by unfold namE; rw [HNB.out]; simp)]
        go_upto_region 4 with fail
        clear d0
        refine wp_region_bw (w0 := wr) (by kernel_rfl) (by kernel_rfl) (Below.refl _ _) ?_
        repeat (go_big_quiet_step ((go_at_call 43; exact hNc _)))
        refine wpQuiet_nil ?_
        rintro _ ⟨mw, rfl⟩
        all_goals (
          have HB2 : Hid (Below w.heap.size w mw.val) := HB.out.trans (mw.ok.mono HB.out.size)
          generalize mw.val = w2 at *
          clear m0 m1 m2 m3 m4 m5 m6 m7 mx3 hNc hne0
          go_wp2_with fail
          go_roundw
          case rel => exact ⟨k, rfl, by have := HK.out; omega, HE, HB2⟩
          case measure => simp [intOf])
      | true =>
        by_cases hno : e.anchor.toList = []
        · have HE : Hid (defG es i x k = r) := by show _ = _; rw [← HG3.out, if_neg (by unfold namE; rw [show noB e.anchor = true by unfold noB; rw [hno]; rfl]; simp)]
          go_upto_region 4 with fail
          clear d0
          refine wp_region_bw (w0 := wr) (by kernel_rfl) (by kernel_rfl) (Below.refl _ _) ?_
          repeat (go_big_quiet_step ((go_at_call 43; exact hNc _)))
          refine wpQuiet_nil ?_
          rintro _ ⟨mw, rfl⟩
          all_goals (
            have HB2 : Hid (Below w.heap.size w mw.val) := HB.out.trans (mw.ok.mono HB.out.size)
            generalize mw.val = w2 at *
            clear m0 m1 m2 m3 m4 m5 m6 m7 mx3 hNc hne0
            go_wp2_with fail
            go_roundw
            case rel => exact ⟨k, rfl, by have := HK.out; omega, HE, HB2⟩
            case measure => simp [intOf])
        · have hie : e.anchor.toList.isEmpty = false := by cases hh : e.anchor.toList with | nil => exact absurd hh hno | cons _ _ => rfl
          by_cases hxe : e.anchor = x
          · have HNM : Hid (namE e x = true) := by show _ = _; unfold namE; rw [HNB.out, decide_eq_true hxe, show noB e.anchor = false by unfold noB; rw [beq_eq_false_iff_ne]; exact hno]; rfl
            obtain ⟨y, hy⟩ : ∃ y, endN es k = y := ⟨_, rfl⟩
            have HE : Hid ((if y < 0 ∨ (i : Int) < y then -1 else (k : Int)) = r) := by show _ = _; rw [← HG3.out, if_pos HNM.out, hy]
            have cE : Hid (∀ w', Below w.heap.size w w' → Calls Try.prog 57 #[.slice (some ⟨b, off, none⟩) es.length c, .int .i64 (k : Int)] w' fun e w'' => e = .returned (.int .i64 y) ∧ Below w'.heap.size w' w'') := fun w' hb => end_any w' _ es (HV.out.stays hb) HI.out.2 k hlt y hy
            have hyl : y ≤ 1048576 := by rcases endN_le es k (Nat.le_of_lt hlt) with h | h <;> rw [hy] at h <;> have := HI.out.2 <;> omega
            have hyg : -1 ≤ y := by rcases endN_le es k (Nat.le_of_lt hlt) with h | h <;> rw [hy] at h <;> omega
            clear hy
            have HXE : Hid (e.anchor = x) := hxe
            have teq : (e.anchor.toList == x.toList) = true := by rw [hxe]; simp
            clear hxe
            go_upto_region 4 with fail
            clear d0
            refine wp_region_bw (w0 := wr) (by kernel_rfl) (by kernel_rfl) (Below.refl _ _) ?_
            repeat (go_big_quiet_step ((go_at_call 43; exact hNc _)))
            refine wpQuiet_nil ?_
            rintro _ ⟨mw, rfl⟩
            all_goals (
              have HB2 : Hid (Below w.heap.size w mw.val) := HB.out.trans (mw.ok.mono HB.out.size)
              generalize mw.val = w2 at *
              clear m0 m1 m2 m3 m4 m5 m6 m7 mx3 hNc hne0
              go_wp2_with fail
              refine (cE.out w2 HB2.out).mono ?_
              rintro e9 w3 ⟨rfl, hb3⟩
              have HB3 : Hid (Below w.heap.size w w3) := HB2.out.trans (hb3.mono HB2.out.size)
              clear hb3
              by_cases hy0 : y < 0
              · have HF : Hid ((-1 : Int) = r) := by show _ = _; rw [← HE.out, if_pos (.inl hy0)]
                go_wp2_with fail
                go_ret
                exact ⟨ret_i HF.out, HB3.out⟩
              · by_cases hyi : (i : Int) < y
                · have HF : Hid ((-1 : Int) = r) := by show _ = _; rw [← HE.out, if_pos (.inr hyi)]
                  have hyi' : y > (i : Int) := hyi
                  go_wp2_with fail
                  go_ret
                  exact ⟨ret_i HF.out, HB3.out⟩
                · have HF : Hid ((k : Int) = r) := by show _ = _; rw [← HE.out, if_neg (by omega)]
                  have hyi' : ¬ y > (i : Int) := hyi
                  go_wp2_with fail
                  go_ret
                  exact ⟨ret_i HF.out, HB3.out⟩)
          · have HE : Hid (defG es i x k = r) := by show _ = _; rw [← HG3.out, if_neg (by unfold namE; rw [decide_eq_false hxe]; simp)]
            have hne : (e.anchor.toList == x.toList) = false := by rw [beq_eq_false_iff_ne]; intro h; exact hxe (ba_of_list h)
            clear hxe
            go_upto_region 4 with fail
            clear d0
            refine wp_region_bw (w0 := wr) (by kernel_rfl) (by kernel_rfl) (Below.refl _ _) ?_
            repeat (go_big_quiet_step ((go_at_call 43; exact hNc _)))
            refine wpQuiet_nil ?_
            rintro _ ⟨mw, rfl⟩
            all_goals (
              have HB2 : Hid (Below w.heap.size w mw.val) := HB.out.trans (mw.ok.mono HB.out.size)
              generalize mw.val = w2 at *
              clear m0 m1 m2 m3 m4 m5 m6 m7 mx3 hNc hne0
              go_wp2_with fail
              go_roundw
              case rel => exact ⟨k, rfl, by have := HK.out; omega, HE, HB2⟩
              case measure => simp [intOf])
end Go.Proofs.Ytkdlakcmhdiojaa
