/- Several texts in one: Gtn Gtg. -/
import Derived.Test.YtgaibajkegfpoaaDoorGto
/- A copy of a list of nodes and of a graph, which is the call's own. -/
namespace Go.Proofs.YtgaibajkegfpoaaDoor
open Go.ChangeShapes Go.WideShapes Go.ChangeAt Go.RowKit Go.Deep
def cellsN : List Nd → List Value → List Value
  | n :: t, v :: u => .int .i64 n.kind :: .string n.tag :: .string n.text :: v :: cellsN t u
  | _, _ => []
theorem cellsN_len : ∀ (ns : List Nd) (vs : List Value), vs.length = ns.length → (cellsN ns vs).length = ns.length * 4
  | [], [], _ => rfl
  | n :: t, v :: u, h => by
    have := cellsN_len t u (by simpa using h)
    simp only [cellsN, List.length_cons, this]
    omega
  | [], _ :: _, h => by simp at h
  | _ :: _, [], h => by simp at h
theorem cellsN_snoc : ∀ (ns : List Nd) (vs : List Value) (n : Nd) (v : Value), vs.length = ns.length → cellsN (ns ++ [n]) (vs ++ [v]) = cellsN ns vs ++ [.int .i64 n.kind, .string n.tag, .string n.text, v]
  | [], [], _, _, _ => rfl
  | m :: t, x :: u, n, v, h => by
    have := cellsN_snoc t u n v (by simpa using h)
    simp only [List.cons_append, cellsN, this]
  | [], _ :: _, _, _, h => by simp at h
  | _ :: _, [], _, _, h => by simp at h
def zNd (j : Nat) : Value := zrowN[j % 4]!
theorem cellsN_step {ns : List Nd} {vs : List Value} {k : Nat} (hk : ns.length = k) (hv : vs.length = ns.length) (n : Nd) (v : Value) (j : Nat) :
    (if j = k * 4 + 3 then v else if j = k * 4 + 2 then Value.string n.text else if j = k * 4 + 1 then Value.string n.tag else if j = k * 4 then Value.int .i64 n.kind else (cellsN ns vs)[j]?.getD (zNd j)) = (cellsN (ns ++ [n]) (vs ++ [v]))[j]?.getD (zNd j) := by
  have hl := cellsN_len ns vs hv
  rw [cellsN_snoc ns vs n v hv, List.getElem?_append]
  by_cases h1 : j < (cellsN ns vs).length
  · rw [if_pos h1]
    repeat rw [if_neg (by omega)]
  · rw [if_neg h1]
    by_cases h9 : j < k * 4 + 4
    · obtain ⟨d, hd, hd4⟩ : ∃ d, j = k * 4 + d ∧ d < 4 := ⟨j - k * 4, by omega, by omega⟩
      have e : j - (cellsN ns vs).length = d := by omega
      rw [e]
      subst hd
      clear e h1 h9 hl
      rcases (show d = 0 ∨ d = 1 ∨ d = 2 ∨ d = 3 by omega) with rfl | rfl | rfl | rfl
      all_goals
        (repeat (first | rw [if_pos (by omega)] | rw [if_neg (by omega)]))
        rfl
    · repeat rw [if_neg (by omega)]
      rw [List.getElem?_eq_none (l := cellsN ns vs) (by omega), List.getElem?_eq_none (by simp; omega)]
/-- The lists of kids, each in a block of its own. -/
structure KidsOwn (lo : Nat) (w : World) (vs : List Value) (ns : List Nd) : Prop where
  len : vs.length = ns.length
  own : ∀ (i : Nat) (v : Value) (n : Nd), vs[i]? = some v → ns[i]? = some n → w.ownsRow lo 3 1 v n.kids.length (ilV n.kids)
  apart : ∀ (i j : Nat) (a b : Value) (x : Nat), i < j → vs[i]? = some a → vs[j]? = some b → a.ownBlock = some x → b.ownBlock ≠ some x
theorem KidsOwn.nil (lo : Nat) (w : World) : KidsOwn lo w [] [] := ⟨rfl, fun i v n h => by simp at h, fun i j a b x _ h => by simp at h⟩
theorem KidsOwn.get {lo : Nat} {w : World} {vs : List Value} {ns : List Nd} (h : KidsOwn lo w vs ns) {i : Nat} {v : Value} (hv : vs[i]? = some v) : ∃ n, ns[i]? = some n := by
  have : i < vs.length := by
    rcases Nat.lt_or_ge i vs.length with h' | h'
    · exact h'
    · rw [List.getElem?_eq_none h'] at hv; cases hv
  exact ⟨_, List.getElem?_eq_getElem (by rw [← h.len]; exact this)⟩
theorem KidsOwn.lt {lo : Nat} {w : World} {vs : List Value} {ns : List Nd} (h : KidsOwn lo w vs ns) {i : Nat} {v : Value} {x : Nat} (hv : vs[i]? = some v) (hx : v.ownBlock = some x) : lo ≤ x ∧ x < w.heap.size := by
  obtain ⟨n, hn⟩ := h.get hv
  exact (h.own i v n hv hn).lt x hx
theorem KidsOwn.block {lo : Nat} {w w' : World} {vs : List Value} {ns : List Nd} (h : KidsOwn lo w vs ns) (hb : ∀ (i : Nat) (v : Value) (x : Nat), vs[i]? = some v → v.ownBlock = some x → w'.heap[x]? = w.heap[x]?) : KidsOwn lo w' vs ns :=
  ⟨h.len, fun i v n hv hn => g_row_block (h.own i v n hv hn) (fun x hx => hb i v x hv hx), h.apart⟩
theorem KidsOwn.later {lo : Nat} {w w' : World} {vs : List Value} {ns : List Nd} (h : KidsOwn lo w vs ns) (hb : Below w.heap.size w w') : KidsOwn lo w' vs ns :=
  h.block (fun _ _ x hv hx => hb.block x (h.lt hv hx).2)
theorem KidsOwn.snoc {lo : Nat} {w w' : World} {vs : List Value} {ns : List Nd} {n : Nd} {v : Value} (h : KidsOwn lo w vs ns) (hb : Below w.heap.size w w') (hlo : lo ≤ w.heap.size) (hv : w'.ownsRow w.heap.size 3 1 v n.kids.length (ilV n.kids)) : KidsOwn lo w' (vs ++ [v]) (ns ++ [n]) := by
  have h' := h.later hb
  have cut : ∀ (i : Nat) (a : Value), (vs ++ [v])[i]? = some a → vs[i]? = some a ∨ (i = vs.length ∧ a = v) := fun i a hi => by
    rcases Nat.lt_or_ge i vs.length with h1 | h1
    · rw [List.getElem?_append_left h1] at hi
      exact .inl hi
    · rw [List.getElem?_append_right h1] at hi
      rcases Nat.eq_zero_or_pos (i - vs.length) with h2 | h2
      · rw [h2] at hi
        obtain rfl : v = a := by simpa using hi
        exact .inr ⟨by omega, rfl⟩
      · rw [List.getElem?_eq_none (by simp; omega)] at hi; cases hi
  refine ⟨by simp [h.len], fun i a m hi hm => ?_, fun i j a b x hij hi hj hx => ?_⟩
  · rcases cut i a hi with h1 | ⟨h1, rfl⟩
    · obtain ⟨m', hm'⟩ := h.get h1
      have hlt : i < ns.length := (List.getElem?_eq_some_iff.1 hm').1
      rw [List.getElem?_append_left hlt] at hm
      exact h'.own i a m h1 hm
    · rw [List.getElem?_append_right (by rw [h1, h.len]; exact Nat.le_refl _), h1, h.len, Nat.sub_self] at hm
      obtain rfl : n = m := by simpa using hm
      exact g_row_lower hv hlo
  · rcases cut i a hi with h1 | ⟨h1, rfl⟩
    · rcases cut j b hj with h2 | ⟨h2, rfl⟩
      · exact h.apart i j a b x hij h1 h2 hx
      · intro hbx
        have := (h.lt h1 hx).2
        have := (hv.lt x hbx).1
        omega
    · rcases cut j b hj with h2 | ⟨h2, _⟩
      · have := (List.getElem?_eq_some_iff.1 h2).1
        omega
      · omega
theorem own_type {w : World} {lo e sz : Nat} {v : Value} {n : Nat} {xs : List Value} (h : w.ownsRow lo e sz v n xs) {x : Nat} (hx : v.ownBlock = some x) : ∃ cs fr, w.heap[x]? = some (.cells cs e fr) := by
  rcases h.2 with ⟨rfl, _⟩ | ⟨g, cap, cur, rfl, _, hg, _⟩
  · simp [Value.ownBlock] at hx
  · simp [Value.ownBlock] at hx
    subst hx
    exact ⟨_, _, hg⟩
set_option maxHeartbeats 8000000 in
theorem toNs_own (w : World) (v : Value) (ns : List Nd) (hV : NlAt w v ns) (hl : ns.length ≤ 1048576) (hk : ∀ n ∈ ns, n.kids.length ≤ 1048576) :
    Calls Tryd.prog 18 #[v] w fun e w' => (e = .returned (.slice (some ⟨w.heap.size, 0, none⟩) ns.length ns.length) ∧ ∃ vs, w'.ownsRow w.heap.size 67 4 (.slice (some ⟨w.heap.size, 0, none⟩) ns.length ns.length) ns.length (cellsN ns vs) ∧ KidsOwn w.heap.size w' vs ns) ∧ Below w.heap.size w w' := by
  obtain ⟨a, c, rfl⟩ := hV.sl
  have HV : Hid (NlAt w (.slice a ns.length c) ns) := hV
  have HK : Hid (∀ n ∈ ns, n.kids.length ≤ 1048576) := hk
  clear hV hk
  obtain ⟨ti, hti, hz0, hz1, hz2⟩ := info_parts infoNd
  have hmk : ∀ w : World, (Instr.makeSlice 29 (.int .i64 (ns.length : Int)) (.int .i64 (ns.length : Int))).run Tryd.prog w = .ok (.slice (some ⟨w.heap.size, 0, none⟩) ns.length ns.length) (w.alloc (.cells (madeCells zrowN (ns.length * 4)) 67)) := by
    intro w
    have := run_make (P := Tryd.prog) w 29 67 ti _ Tryd.underlying29 hti hz0 .i64 .i64 ns.length ns.length (by omega) (Int.le_refl _) (by rw [hz2]; omega) (by omega)
    rw [hz1] at this
    simpa [Value.cells] using this
  clear hti hz0 hz1 hz2
  go_enter Tryd.func18, Tryd.ntmps18
  go_wp2_with fail
  go_loopw [4] (fun i wr => ∃ (k : Nat) (vs : List Value), k ≤ ns.length ∧ i = .int .i64 k ∧ Hid (wr.rowIs w.heap.size 67 (ns.length * 4) (fun j => (cellsN (ns.take k) vs)[j]?.getD (zNd j))) ∧ Hid (KidsOwn w.heap.size wr vs (ns.take k)) ∧ Below w.heap.size w wr) (fun i _ => ns.length - (intOf i).toNat)
  case atStart =>
    refine ⟨0, [], Nat.zero_le _, rfl, ?_, KidsOwn.nil _ _, (Below.refl _ _).alloc (Nat.le_refl _) _⟩
    have := World.rowIs_alloc w (madeCells zrowN (ns.length * 4)) 67 zNd (fun i hi => by
      rw [size_madeCells] at hi
      unfold madeCells zNd
      have h4 : zrowN.size = 4 := rfl
      simp [hi, h4])
    rw [size_madeCells] at this
    exact this.congr (fun i hi => by simp [cellsN])
  case round =>
    obtain ⟨k, vs, hk, rfl, HC, HO, hb⟩ := hrel
    by_cases hlt : k < ns.length
    · obtain ⟨n, hx⟩ : ∃ h, ns[k]? = some h := ⟨_, List.getElem?_eq_getElem hlt⟩
      obtain ⟨b, off, kv, rfl, hbl, hN⟩ := HV.out.at hx
      obtain ⟨c0, c1, c2, c3, hI⟩ := hN.later hbl hb
      have HX : Hid (ns.take (k + 1) = ns.take k ++ [n]) := by show ns.take (k + 1) = _; rw [List.take_add_one, hx]; rfl
      have hlt' : (k : Int) < (ns.length : Int) := by omega
      have hszH := HC.out.lt
      have HTL : Hid ((ns.take k).length = k) := by show _ = _; rw [List.length_take]; omega
      have cE := toN_own n kv wr hI (HK.out n (List.mem_of_getElem? hx))
      clear hx hN hI hbl
      obtain ⟨kind, tag, text, kids⟩ := n
      go_wp2_with fail
      refine cE.mono ?_
      rintro e w1 ⟨⟨kv', rfl, hsl, ho⟩, hb1⟩
      obtain ⟨s0, s1, s2, rfl⟩ := hsl
      clear cE c0 c1 c2 c3
      have hrow := HC.out.of_block (hb1.block _ hszH)
      have hKO := HO.out.snoc (n := ⟨kind, tag, text, kids⟩) hb1 hb.size ho
      have k0 : w1.cell? ⟨w.heap.size, k * 4, none⟩ = some _ := hrow.cell (by omega)
      have k1 : w1.cell? ⟨w.heap.size, k * 4 + 1, none⟩ = some _ := hrow.cell (by omega)
      have k2 : w1.cell? ⟨w.heap.size, k * 4 + 2, none⟩ = some _ := hrow.cell (by omega)
      have k3 : w1.cell? ⟨w.heap.size, k * 4 + 3, none⟩ = some _ := hrow.cell (by omega)
      have f0 := hrow.frozen (k * 4)
      have f1 := hrow.frozen (k * 4 + 1)
      have f2 := hrow.frozen (k * 4 + 2)
      have f3 := hrow.frozen (k * 4 + 3)
      have hB1 : Below w.heap.size w w1 := hb.trans (hb1.mono hb.size)
      have RA : Hid (((((w1.setCell ⟨w.heap.size, k * 4, none⟩ (.int .i64 kind)).setCell ⟨w.heap.size, k * 4 + 1, none⟩ (.string tag)).setCell ⟨w.heap.size, k * 4 + 2, none⟩ (.string text)).setCell ⟨w.heap.size, k * 4 + 3, none⟩ (.slice s0 s1 s2)).rowIs w.heap.size 67 (ns.length * 4) (fun j => (cellsN (ns.take (k + 1)) (vs ++ [.slice s0 s1 s2]))[j]?.getD (zNd j))) := by
        show World.rowIs _ _ _ _ _
        rw [HX.out]
        exact ((((hrow.set (k * 4) _).set (k * 4 + 1) _).set (k * 4 + 2) _).set (k * 4 + 3) _).congr (fun j _ => cellsN_step HTL.out HO.out.len ⟨kind, tag, text, kids⟩ _ j)
      have RK : Hid (KidsOwn w.heap.size ((((w1.setCell ⟨w.heap.size, k * 4, none⟩ (.int .i64 kind)).setCell ⟨w.heap.size, k * 4 + 1, none⟩ (.string tag)).setCell ⟨w.heap.size, k * 4 + 2, none⟩ (.string text)).setCell ⟨w.heap.size, k * 4 + 3, none⟩ (.slice s0 s1 s2)) (vs ++ [.slice s0 s1 s2]) (ns.take (k + 1))) := by
        show KidsOwn _ _ _ _
        rw [HX.out]
        refine hKO.block (fun i u x hu hx => ?_)
        obtain ⟨m, hm⟩ := hKO.get hu
        obtain ⟨cs, fr, ht⟩ := own_type (hKO.own i u m hu hm) hx
        have hne : x ≠ w.heap.size := by
          rintro rfl
          obtain ⟨c', hc', _, _⟩ := hrow
          rw [hc'] at ht
          cases ht
        rw [heap_setCell_other _ _ _ _ hne, heap_setCell_other _ _ _ _ hne, heap_setCell_other _ _ _ _ hne, heap_setCell_other _ _ _ _ hne]
      have RB : Hid (Below w.heap.size w ((((w1.setCell ⟨w.heap.size, k * 4, none⟩ (.int .i64 kind)).setCell ⟨w.heap.size, k * 4 + 1, none⟩ (.string tag)).setCell ⟨w.heap.size, k * 4 + 2, none⟩ (.string text)).setCell ⟨w.heap.size, k * 4 + 3, none⟩ (.slice s0 s1 s2))) := (((hB1.setCell (Nat.le_refl _) _).setCell (Nat.le_refl _) _).setCell (Nat.le_refl _) _).setCell (Nat.le_refl _) _
      clear hb1 hrow HC hB1 HO ho hKO hb
      go_wp2_with fail
      go_roundw
      case rel => exact ⟨k + 1, _, hlt, by go_num, RA, RK, RB.out⟩
      case measure => simp [intOf]; omega
    · have hge : ¬ (k : Int) < (ns.length : Int) := by omega
      go_wp2_with fail
      go_ret
      have ek : k = ns.length := by omega
      have hrow := HC.out
      have hKO := HO.out
      rw [ek, List.take_length] at hrow hKO
      refine ⟨⟨rfl, vs, ?_, hKO⟩, hb⟩
      exact g_own_of_row (m := ns.length) hrow rfl (cellsN_len ns vs hKO.len) (fun i hi => by
        have hl2 : i < (cellsN ns vs).length := by rw [cellsN_len ns vs hKO.len]; exact hi
        rw [List.getElem?_eq_getElem hl2]
        rfl) (by unfold maxLen; omega) (Nat.le_refl _)
end Go.Proofs.YtgaibajkegfpoaaDoor
/- A copy of a graph, which is the call's own; what is owned can be read. -/
namespace Go.Proofs.YtgaibajkegfpoaaDoor
open Go.ChangeShapes Go.WideShapes Go.ChangeAt Go.RowKit Go.Deep
/-- A graph of the call's own: its nodes, their kids and its roots, each list in a block of its own. -/
structure GOwn (lo : Nat) (w : World) (nv rv : Value) (g : Gr) (vs : List Value) : Prop where
  nodes : w.ownsRow lo 67 4 nv g.nodes.length (cellsN g.nodes vs)
  kids : KidsOwn lo w vs g.nodes
  roots : w.ownsRow lo 3 1 rv g.roots.length (ilV g.roots)
  apart : ∀ (i : Nat) (a : Value) (x : Nat), vs[i]? = some a → a.ownBlock = some x → rv.ownBlock ≠ some x
theorem cellsN_at : ∀ (ns : List Nd) (vs : List Value) (i : Nat) (n : Nd) (v : Value), ns[i]? = some n → vs[i]? = some v → ∀ j u, [Value.int .i64 n.kind, .string n.tag, .string n.text, v][j]? = some u → (cellsN ns vs)[i * 4 + j]? = some u
  | [], _, i, n, v, h, _, _, _, _ => by simp at h
  | _ :: _, [], i, n, v, _, h, _, _, _ => by simp at h
  | m :: t, x :: y, 0, n, v, h, h', j, u, hu => by
    obtain rfl : m = n := by simpa using h
    obtain rfl : x = v := by simpa using h'
    have hj : j < 4 := (List.getElem?_eq_some_iff.1 hu).1
    rw [Nat.zero_mul, Nat.zero_add, cellsN]
    match j, hj, hu with
    | 0, _, hu => exact hu
    | 1, _, hu => exact hu
    | 2, _, hu => exact hu
    | 3, _, hu => exact hu
  | m :: t, x :: y, i + 1, n, v, h, h', j, u, hu => by
    rw [cellsN, show (i + 1) * 4 + j = (i * 4 + j) + 4 by omega]
    exact cellsN_at t y i n v (by simpa using h) (by simpa using h') j u hu
theorem nl_of_own {w : World} {lo : Nat} {nv : Value} {ns : List Nd} {vs : List Value} (h : w.ownsRow lo 67 4 nv ns.length (cellsN ns vs)) (hk : KidsOwn lo w vs ns) : NlAt w nv ns := by
  by_cases hz : ns = []
  · subst hz
    left
    rcases h.2 with ⟨e, _⟩ | ⟨g, cap, cur, e, _⟩
    · exact ⟨rfl, _, _, e⟩
    · exact ⟨rfl, _, _, e⟩
  · right
    have hpos : 0 < ns.length := List.length_pos_iff.2 hz
    rcases h.2 with ⟨_, e⟩ | ⟨g, cap, cur, rfl, _, hg, _⟩
    · omega
    · refine ⟨hz, g, 0, cap, rfl, (Array.getElem?_eq_some_iff.1 hg).1, fun i n hi => ?_⟩
      have hil : i < vs.length := by rw [hk.len]; exact (List.getElem?_eq_some_iff.1 hi).1
      have hv : vs[i]? = some vs[i] := List.getElem?_eq_getElem hil
      have hc : ∀ j u, [Value.int .i64 n.kind, .string n.tag, .string n.text, vs[i]][j]? = some u → w.cell? ⟨g, 0 + i * 4 + j, none⟩ = some u := fun j u hu => by
        have h1 := h.cells (g := g) rfl (i * 4 + j) u (cellsN_at ns vs i n _ hi hv j u hu)
        have a1 : (⟨g, 0, none⟩ : Addr).add (i * 4 + j) = ⟨g, i * 4 + j, none⟩ := by unfold Addr.add; split <;> simp_all
        rw [a1] at h1
        rw [Nat.zero_add]
        exact h1
      exact ⟨vs[i], hc 0 _ rfl, hc 1 _ rfl, hc 2 _ rfl, hc 3 _ rfl, il_of_own (hk.own i _ n hv hi)⟩
theorem GOwn.at {lo : Nat} {w : World} {nv rv : Value} {g : Gr} {vs : List Value} (h : GOwn lo w nv rv g vs) : GrAt w nv rv g := ⟨nl_of_own h.nodes h.kids, il_of_own h.roots⟩
theorem GOwn.later {lo : Nat} {w w' : World} {nv rv : Value} {g : Gr} {vs : List Value} (h : GOwn lo w nv rv g vs) (hb : Below w.heap.size w w') : GOwn lo w' nv rv g vs :=
  ⟨g_row_below h.nodes hb, h.kids.later hb, g_row_below h.roots hb, h.apart⟩
theorem GOwn.lower {lo lo' : Nat} {w : World} {nv rv : Value} {g : Gr} {vs : List Value} (h : GOwn lo w nv rv g vs) (hl : lo' ≤ lo) : GOwn lo' w nv rv g vs :=
  ⟨g_row_lower h.nodes hl, ⟨h.kids.len, fun i v n hv hn => g_row_lower (h.kids.own i v n hv hn) hl, h.kids.apart⟩, g_row_lower h.roots hl, h.apart⟩
section
variable {w : World} {b : Nat} {x0 x1 : Value} {t : TypeId}
theorem n2_0 (h : w.heap[b]? = some (.cells #[x0, x1] t (0, 0))) : w.cell? ⟨b, 0, none⟩ = some x0 := by simp [World.cell?, h]
theorem n2_1 (h : w.heap[b]? = some (.cells #[x0, x1] t (0, 0))) : w.cell? ⟨b, 1, none⟩ = some x1 := by simp [World.cell?, h]
theorem n2_f (h : w.heap[b]? = some (.cells #[x0, x1] t (0, 0))) (i : Nat) : w.frozen? ⟨b, i, none⟩ = false := by simp [World.frozen?, h]
theorem n2_set0 (h : w.heap[b]? = some (.cells #[x0, x1] t (0, 0))) (a : Value) : (w.setCell ⟨b, 0, none⟩ a).heap[b]? = some (.cells #[a, x1] t (0, 0)) := by
  simp [World.setCell, Array.getElem?_modify, h]
theorem n2_set1 (h : w.heap[b]? = some (.cells #[x0, x1] t (0, 0))) (a : Value) : (w.setCell ⟨b, 1, none⟩ a).heap[b]? = some (.cells #[x0, a] t (0, 0)) := by
  simp [World.setCell, Array.getElem?_modify, h]
end
set_option maxHeartbeats 4000000 in
theorem toG_own (g : Gr) (nv rv : Value) (w : World) (hG : GrAt w nv rv g) (ht : g.tot ≤ 1048576) :
    Calls Tryd.prog 6 #[.agg #[nv, rv]] w fun e w' => (∃ nv' rv' vs, e = .returned (.agg #[nv', rv']) ∧ isSlG nv' ∧ isSlG rv' ∧ GOwn w.heap.size w' nv' rv' g vs) ∧ Below w.heap.size w w' := by
  obtain ⟨nodes, roots⟩ := g
  have htt : nodes.length + totN nodes + roots.length ≤ 1048576 := ht
  have hkk : ∀ n ∈ nodes, n.kids.length ≤ 1048576 := fun n hn => by
    have := totN_mem hn
    unfold Nd.tot at this
    omega
  obtain ⟨na, nc, rfl⟩ := hG.1.sl
  obtain ⟨ra, rc, rfl⟩ := hG.2.sl
  have HG : Hid (GrAt w (.slice na nodes.length nc) (.slice ra roots.length rc) ⟨nodes, roots⟩) := hG
  have HK : Hid (∀ n ∈ nodes, n.kids.length ≤ 1048576) := hkk
  have HT : Hid (nodes.length ≤ 1048576 ∧ roots.length ≤ 1048576) := ⟨by omega, by omega⟩
  obtain ⟨V, hV⟩ : ∃ V, ((w.alloc (.cells #[.slice na nodes.length nc, .slice ra roots.length rc] 25)).alloc (.cells #[.slice none 0 0, .slice none 0 0] 31)).alloc (.cells #[.slice none 0 0, .slice none 0 0] 31) = V := ⟨_, rfl⟩
  have HB0 : Hid (Below w.heap.size w V) := by show Below _ _ _; rw [← hV]; exact (((Below.refl _ w).alloc (Nat.le_refl _) _).alloc (by simp) _).alloc (by simp; omega) _
  have HS0 : Hid (V.heap.size = w.heap.size + 3) := by show _ = _; rw [← hV]; show (((w.heap.push _).push _).push _).size = _; simp
  have H0 : Hid (V.heap[w.heap.size]? = some (.cells #[.slice na nodes.length nc, .slice ra roots.length rc] 25 (0, 0))) := by
    show _ = _
    rw [← hV]
    show (((w.heap.push _).push _).push _)[w.heap.size]? = _
    rw [Array.getElem?_push, if_neg (by simp; omega), Array.getElem?_push, if_neg (by simp), Array.getElem?_push, if_pos rfl]
  have H1 : Hid (V.heap[w.heap.size + 1]? = some (.cells #[.slice none 0 0, .slice none 0 0] 31 (0, 0))) := by
    show _ = _
    rw [← hV]
    show (((w.heap.push _).push _).push _)[w.heap.size + 1]? = _
    rw [Array.getElem?_push, if_neg (by simp), Array.getElem?_push, if_pos (by simp)]
  have H2 : Hid (V.heap[w.heap.size + 2]? = some (.cells #[.slice none 0 0, .slice none 0 0] 31 (0, 0))) := by
    show _ = _
    rw [← hV]
    show (((w.heap.push _).push _).push _)[w.heap.size + 2]? = _
    rw [Array.getElem?_push, if_pos (by simp)]
  have HV : Hid (((w.alloc (.cells #[.slice na nodes.length nc, .slice ra roots.length rc] 25)).alloc (.cells #[.slice none 0 0, .slice none 0 0] 31)).alloc (.cells #[.slice none 0 0, .slice none 0 0] 31) = V) := hV
  clear hV hG ht htt hkk
  go_enter Tryd.func6, Tryd.ntmps6
  go_wp2_with fail
  rw [HV.out]
  refine (toNs_own V _ nodes (HG.out.1.later HB0.out) HT.out.1 HK.out).mono ?_
  rintro e w1 ⟨⟨rfl, vs, ho, hk⟩, hb1⟩
  have HB1 : Hid (Below w.heap.size w w1) := HB0.out.trans (hb1.mono HB0.out.size)
  have G0 := (hb1.block w.heap.size (by rw [HS0.out]; omega)).trans H0.out
  have G1 : Hid (w1.heap[w.heap.size + 1]? = some (.cells #[.slice none 0 0, .slice none 0 0] 31 (0, 0))) := (hb1.block (w.heap.size + 1) (by rw [HS0.out]; omega)).trans H1.out
  have G2 := (hb1.block (w.heap.size + 2) (by rw [HS0.out]; omega)).trans H2.out
  have S1 : Hid (w.heap.size + 3 ≤ w1.heap.size) := by show _ ≤ _; rw [← HS0.out]; exact hb1.size
  have p0 := n2_0 G2
  have f0 := n2_f G2 0
  have a1 := n2_1 G0
  obtain ⟨W1, hW1⟩ : ∃ W1, w1.setCell ⟨w.heap.size + 2, 0, none⟩ (.slice (some ⟨V.heap.size, 0, none⟩) nodes.length nodes.length) = W1 := ⟨_, rfl⟩
  have hx : ∀ k, k ≠ w.heap.size + 2 → W1.heap[k]? = w1.heap[k]? := fun k hk => by rw [← hW1]; exact heap_setCell_other _ _ _ _ hk
  have HO : Hid (W1.ownsRow V.heap.size 67 4 (.slice (some ⟨V.heap.size, 0, none⟩) nodes.length nodes.length) nodes.length (cellsN nodes vs)) := g_row_block ho (fun g hg => hx g (by have := (ho.lt g hg).1; have := HS0.out; omega))
  have HKO : Hid (KidsOwn V.heap.size W1 vs nodes) := hk.block (fun i v x hv hx2 => hx x (by have := (hk.lt hv hx2).1; have := HS0.out; omega))
  have HB2 : Hid (Below w.heap.size w W1) := by show Below _ _ _; rw [← hW1]; exact HB1.out.setCell (by show w.heap.size ≤ w.heap.size + 2; omega) _
  have K0 : Hid (W1.heap[w.heap.size]? = some (.cells #[.slice na nodes.length nc, .slice ra roots.length rc] 25 (0, 0))) := (hx _ (by omega)).trans G0
  have K1 : Hid (W1.heap[w.heap.size + 1]? = some (.cells #[.slice none 0 0, .slice none 0 0] 31 (0, 0))) := (hx _ (by omega)).trans G1.out
  have K2 : Hid (W1.heap[w.heap.size + 2]? = some (.cells #[.slice (some ⟨V.heap.size, 0, none⟩) nodes.length nodes.length, .slice none 0 0] 31 (0, 0))) := by show _ = _; rw [← hW1]; exact n2_set0 G2 _
  have SW : Hid (W1.heap.size = w1.heap.size) := by show _ = _; rw [← hW1]; simp
  have HW1 : Hid (w1.setCell ⟨w.heap.size + 2, 0, none⟩ (.slice (some ⟨V.heap.size, 0, none⟩) nodes.length nodes.length) = W1) := hW1
  have b1 := n2_1 K0.out
  rw [← hW1] at b1
  clear hb1 ho hk G0 G1 G2 HV H0 H1 H2 hx hW1 HB1
  go_wp2_with fail
  rw [HW1.out]
  refine (toI_own W1 _ roots (HG.out.2.later HB2.out) HT.out.2).mono ?_
  rintro e w2 ⟨⟨rfl, hr⟩, hb2⟩
  have HB3 : Hid (Below w.heap.size w w2) := HB2.out.trans (hb2.mono HB2.out.size)
  have hsz : w.heap.size + 3 ≤ W1.heap.size := by rw [SW.out]; exact S1.out
  have M1 := (hb2.block (w.heap.size + 1) (by omega)).trans K1.out
  have M2 := (hb2.block (w.heap.size + 2) (by omega)).trans K2.out
  have HR : Hid (w2.ownsRow W1.heap.size 3 1 (.slice (some ⟨W1.heap.size, 0, none⟩) roots.length roots.length) roots.length (ilV roots)) := hr
  have HO2 : Hid (w2.ownsRow V.heap.size 67 4 (.slice (some ⟨V.heap.size, 0, none⟩) nodes.length nodes.length) nodes.length (cellsN nodes vs)) := g_row_below HO.out hb2
  have HK2 : Hid (KidsOwn V.heap.size w2 vs nodes) := HKO.out.later hb2
  have HLT : Hid (∀ (i : Nat) (v : Value) (x : Nat), vs[i]? = some v → v.ownBlock = some x → x < W1.heap.size) := fun i v x hv hx => (HKO.out.lt hv hx).2
  have HVW : Hid (V.heap.size ≤ W1.heap.size) := by show _ ≤ _; have := HS0.out; omega
  have HM1 : Hid (w2.heap[w.heap.size + 1]? = some (.cells #[.slice none 0 0, .slice none 0 0] 31 (0, 0))) := M1
  have p1 := n2_1 M2
  have q0 := n2_0 M2
  have f1 := n2_f M2 1
  have z0 := n2_0 M1
  have z1 := n2_1 M1
  have y0 := n2_f M1 0
  have y1 := n2_f M1 1
  clear hb2 hr M1 M2 K0 K1 K2 HO HKO HW1 b1 p0 f0 a1 HB2 HG HK
  go_wp2_with fail
  have hX : ∀ k, k ≠ w.heap.size + 2 → k ≠ w.heap.size + 1 → (((w2.setCell ⟨w.heap.size + 2, 1, none⟩ (.slice (some ⟨W1.heap.size, 0, none⟩) roots.length roots.length)).setCell ⟨w.heap.size + 1, 0, none⟩ (.slice (some ⟨V.heap.size, 0, none⟩) nodes.length nodes.length)).setCell ⟨w.heap.size + 1, 1, none⟩ (.slice (some ⟨W1.heap.size, 0, none⟩) roots.length roots.length)).heap[k]? = w2.heap[k]? := fun k h1 h2 => by
    rw [heap_setCell_other _ _ _ _ h2, heap_setCell_other _ _ _ _ h2, heap_setCell_other _ _ _ _ h1]
  have hF : (((w2.setCell ⟨w.heap.size + 2, 1, none⟩ (.slice (some ⟨W1.heap.size, 0, none⟩) roots.length roots.length)).setCell ⟨w.heap.size + 1, 0, none⟩ (.slice (some ⟨V.heap.size, 0, none⟩) nodes.length nodes.length)).setCell ⟨w.heap.size + 1, 1, none⟩ (.slice (some ⟨W1.heap.size, 0, none⟩) roots.length roots.length)).heap[w.heap.size + 1]? = some (.cells #[.slice (some ⟨V.heap.size, 0, none⟩) nodes.length nodes.length, .slice (some ⟨W1.heap.size, 0, none⟩) roots.length roots.length] 31 (0, 0)) :=
    n2_set1 (n2_set0 ((heap_setCell_other _ _ _ _ (by show w.heap.size + 1 ≠ w.heap.size + 2; omega)).trans HM1.out) _) _
  have hFb := ((HB3.out.setCell (p := ⟨w.heap.size + 2, 1, none⟩) (by show w.heap.size ≤ w.heap.size + 2; omega) (.slice (some ⟨W1.heap.size, 0, none⟩) roots.length roots.length)).setCell (p := ⟨w.heap.size + 1, 0, none⟩) (by show w.heap.size ≤ w.heap.size + 1; omega) (.slice (some ⟨V.heap.size, 0, none⟩) nodes.length nodes.length)).setCell (p := ⟨w.heap.size + 1, 1, none⟩) (by show w.heap.size ≤ w.heap.size + 1; omega) (.slice (some ⟨W1.heap.size, 0, none⟩) roots.length roots.length)
  try simp only [Exit.inBlock, Exit.then]
  refine bodyPost_ret (results_cell_row rfl _ _ (w.heap.size + 1) 31 _ (0, 0) _ rfl hF Tryd.underlying31 rfl (by kernel_rfl)) rfl ?_
  have hv0 : w.heap.size + 3 = V.heap.size := HS0.out.symm
  have hvw := HVW.out
  refine ⟨⟨_, _, vs, rfl, ⟨_, _, _, rfl⟩, ⟨_, _, _, rfl⟩, ?_⟩, hFb⟩
  refine ⟨g_row_lower (g_row_block HO2.out (fun g hg => hX g (by have := (HO2.out.lt g hg).1; omega) (by have := (HO2.out.lt g hg).1; omega))) (by omega), ⟨HK2.out.len, fun i v n hv hn => g_row_lower (g_row_block (HK2.out.own i v n hv hn) (fun x hx => hX x (by have := (HK2.out.lt hv hx).1; omega) (by have := (HK2.out.lt hv hx).1; omega))) (by omega), HK2.out.apart⟩, g_row_lower (g_row_block HR.out (fun g hg => hX g (by have := (HR.out.lt g hg).1; omega) (by have := (HR.out.lt g hg).1; omega))) (by omega), fun i a x ha hx hrx => ?_⟩
  have h1 := HLT.out i a x ha hx
  have h2 := (HR.out.lt x hrx).1
  omega
end Go.Proofs.YtgaibajkegfpoaaDoor
