/- A copy of a list of nodes and of a graph, which is the call's own. -/
import Derived.Test.YtgaibajkegfpoaaGto
namespace Go.Proofs.Ytgaibajkegfpoaa
open Go.ChangeShapes Go.WideShapes Go.ChangeAt Go.RowKit Go.Deep
def cellsN : List Nd → List Value → List Value
  | n :: t, v :: u => .int .i64 n.kind :: .string n.tag :: .string n.text :: v :: cellsN t u
  | _, _ => []
theorem cellsN_len : ∀ (ns : List Nd) (vs : List Value), vs.length = ns.length → (cellsN ns vs).length = ns.length * 4
  | [], [], _ => rfl
  | n :: t, v :: u, h => by
    have := cellsN_len t u (by simpa using h)
    simp only [cellsN, List.length_cons, this]
    omega
  | [], _ :: _, h => by simp at h
  | _ :: _, [], h => by simp at h
theorem cellsN_snoc : ∀ (ns : List Nd) (vs : List Value) (n : Nd) (v : Value), vs.length = ns.length → cellsN (ns ++ [n]) (vs ++ [v]) = cellsN ns vs ++ [.int .i64 n.kind, .string n.tag, .string n.text, v]
  | [], [], _, _, _ => rfl
  | m :: t, x :: u, n, v, h => by
    have := cellsN_snoc t u n v (by simpa using h)
    simp only [List.cons_append, cellsN, this]
  | [], _ :: _, _, _, h => by simp at h
  | _ :: _, [], _, _, h => by simp at h
def zNd (j : Nat) : Value := zrowN[j % 4]!
theorem cellsN_step {ns : List Nd} {vs : List Value} {k : Nat} (hk : ns.length = k) (hv : vs.length = ns.length) (n : Nd) (v : Value) (j : Nat) :
    (if j = k * 4 + 3 then v else if j = k * 4 + 2 then Value.string n.text else if j = k * 4 + 1 then Value.string n.tag else if j = k * 4 then Value.int .i64 n.kind else (cellsN ns vs)[j]?.getD (zNd j)) = (cellsN (ns ++ [n]) (vs ++ [v]))[j]?.getD (zNd j) := by
  have hl := cellsN_len ns vs hv
  rw [cellsN_snoc ns vs n v hv, List.getElem?_append]
  by_cases h1 : j < (cellsN ns vs).length
  · rw [if_pos h1]
    repeat rw [if_neg (by omega)]
  · rw [if_neg h1]
    by_cases h9 : j < k * 4 + 4
    · obtain ⟨d, hd, hd4⟩ : ∃ d, j = k * 4 + d ∧ d < 4 := ⟨j - k * 4, by omega, by omega⟩
      have e : j - (cellsN ns vs).length = d := by omega
      rw [e]
      subst hd
      clear e h1 h9 hl
      rcases (show d = 0 ∨ d = 1 ∨ d = 2 ∨ d = 3 by omega) with rfl | rfl | rfl | rfl
      all_goals
        (repeat (first | rw [if_pos (by omega)] | rw [if_neg (by omega)]))
        rfl
    · repeat rw [if_neg (by omega)]
      rw [List.getElem?_eq_none (l := cellsN ns vs) (by omega), List.getElem?_eq_none (by simp; omega)]
/-- The lists of kids, each in a block of its own. -/
structure KidsOwn (lo : Nat) (w : World) (vs : List Value) (ns : List Nd) : Prop where
  len : vs.length = ns.length
  own : ∀ (i : Nat) (v : Value) (n : Nd), vs[i]? = some v → ns[i]? = some n → w.ownsRow lo 3 1 v n.kids.length (ilV n.kids)
  apart : ∀ (i j : Nat) (a b : Value) (x : Nat), i < j → vs[i]? = some a → vs[j]? = some b → a.ownBlock = some x → b.ownBlock ≠ some x
theorem KidsOwn.nil (lo : Nat) (w : World) : KidsOwn lo w [] [] := ⟨rfl, fun i v n h => by simp at h, fun i j a b x _ h => by simp at h⟩
theorem KidsOwn.get {lo : Nat} {w : World} {vs : List Value} {ns : List Nd} (h : KidsOwn lo w vs ns) {i : Nat} {v : Value} (hv : vs[i]? = some v) : ∃ n, ns[i]? = some n := by
  have : i < vs.length := by
    rcases Nat.lt_or_ge i vs.length with h' | h'
    · exact h'
    · rw [List.getElem?_eq_none h'] at hv; cases hv
  exact ⟨_, List.getElem?_eq_getElem (by rw [← h.len]; exact this)⟩
theorem KidsOwn.lt {lo : Nat} {w : World} {vs : List Value} {ns : List Nd} (h : KidsOwn lo w vs ns) {i : Nat} {v : Value} {x : Nat} (hv : vs[i]? = some v) (hx : v.ownBlock = some x) : lo ≤ x ∧ x < w.heap.size := by
  obtain ⟨n, hn⟩ := h.get hv
  exact (h.own i v n hv hn).lt x hx
theorem KidsOwn.block {lo : Nat} {w w' : World} {vs : List Value} {ns : List Nd} (h : KidsOwn lo w vs ns) (hb : ∀ (i : Nat) (v : Value) (x : Nat), vs[i]? = some v → v.ownBlock = some x → w'.heap[x]? = w.heap[x]?) : KidsOwn lo w' vs ns :=
  ⟨h.len, fun i v n hv hn => g_row_block (h.own i v n hv hn) (fun x hx => hb i v x hv hx), h.apart⟩
theorem KidsOwn.later {lo : Nat} {w w' : World} {vs : List Value} {ns : List Nd} (h : KidsOwn lo w vs ns) (hb : Below w.heap.size w w') : KidsOwn lo w' vs ns :=
  h.block (fun _ _ x hv hx => hb.block x (h.lt hv hx).2)
theorem KidsOwn.snoc {lo : Nat} {w w' : World} {vs : List Value} {ns : List Nd} {n : Nd} {v : Value} (h : KidsOwn lo w vs ns) (hb : Below w.heap.size w w') (hlo : lo ≤ w.heap.size) (hv : w'.ownsRow w.heap.size 3 1 v n.kids.length (ilV n.kids)) : KidsOwn lo w' (vs ++ [v]) (ns ++ [n]) := by
  have h' := h.later hb
  have cut : ∀ (i : Nat) (a : Value), (vs ++ [v])[i]? = some a → vs[i]? = some a ∨ (i = vs.length ∧ a = v) := fun i a hi => by
    rcases Nat.lt_or_ge i vs.length with h1 | h1
    · rw [List.getElem?_append_left h1] at hi
      exact .inl hi
    · rw [List.getElem?_append_right h1] at hi
      rcases Nat.eq_zero_or_pos (i - vs.length) with h2 | h2
      · rw [h2] at hi
        obtain rfl : v = a := by simpa using hi
        exact .inr ⟨by omega, rfl⟩
      · rw [List.getElem?_eq_none (by simp; omega)] at hi; cases hi
  refine ⟨by simp [h.len], fun i a m hi hm => ?_, fun i j a b x hij hi hj hx => ?_⟩
  · rcases cut i a hi with h1 | ⟨h1, rfl⟩
    · obtain ⟨m', hm'⟩ := h.get h1
      have hlt : i < ns.length := (List.getElem?_eq_some_iff.1 hm').1
      rw [List.getElem?_append_left hlt] at hm
      exact h'.own i a m h1 hm
    · rw [List.getElem?_append_right (by rw [h1, h.len]; exact Nat.le_refl _), h1, h.len, Nat.sub_self] at hm
      obtain rfl : n = m := by simpa using hm
      exact g_row_lower hv hlo
  · rcases cut i a hi with h1 | ⟨h1, rfl⟩
    · rcases cut j b hj with h2 | ⟨h2, rfl⟩
      · exact h.apart i j a b x hij h1 h2 hx
      · intro hbx
        have := (h.lt h1 hx).2
        have := (hv.lt x hbx).1
        omega
    · rcases cut j b hj with h2 | ⟨h2, _⟩
      · have := (List.getElem?_eq_some_iff.1 h2).1
        omega
      · omega
theorem own_type {w : World} {lo e sz : Nat} {v : Value} {n : Nat} {xs : List Value} (h : w.ownsRow lo e sz v n xs) {x : Nat} (hx : v.ownBlock = some x) : ∃ cs fr, w.heap[x]? = some (.cells cs e fr) := by
  rcases h.2 with ⟨rfl, _⟩ | ⟨g, cap, cur, rfl, _, hg, _⟩
  · simp [Value.ownBlock] at hx
  · simp [Value.ownBlock] at hx
    subst hx
    exact ⟨_, _, hg⟩
set_option maxHeartbeats 8000000 in
theorem toNs_own (w : World) (v : Value) (ns : List Nd) (hV : NlAt w v ns) (hl : ns.length ≤ 1048576) (hk : ∀ n ∈ ns, n.kids.length ≤ 1048576) :
    Calls Try.prog 31 #[v] w fun e w' => (e = .returned (.slice (some ⟨w.heap.size, 0, none⟩) ns.length ns.length) ∧ ∃ vs, w'.ownsRow w.heap.size 50 4 (.slice (some ⟨w.heap.size, 0, none⟩) ns.length ns.length) ns.length (cellsN ns vs) ∧ KidsOwn w.heap.size w' vs ns) ∧ Below w.heap.size w w' := by
  obtain ⟨a, c, rfl⟩ := hV.sl
  have HV : Hid (NlAt w (.slice a ns.length c) ns) := hV
  have HK : Hid (∀ n ∈ ns, n.kids.length ≤ 1048576) := hk
  clear hV hk
  obtain ⟨ti, hti, hz0, hz1, hz2⟩ := info_parts infoNd
  have hmk : ∀ w : World, (Instr.makeSlice 28 (.int .i64 (ns.length : Int)) (.int .i64 (ns.length : Int))).run Try.prog w = .ok (.slice (some ⟨w.heap.size, 0, none⟩) ns.length ns.length) (w.alloc (.cells (madeCells zrowN (ns.length * 4)) 50)) := by
    intro w
    have := run_make (P := Try.prog) w 28 50 ti _ Try.underlying28 hti hz0 .i64 .i64 ns.length ns.length (by omega) (Int.le_refl _) (by rw [hz2]; omega) (by omega)
    rw [hz1] at this
    simpa [Value.cells] using this
  clear hti hz0 hz1 hz2
  go_enter Try.func31, Try.ntmps31
  go_wp2_with fail
  go_loopw [4] (fun i wr => ∃ (k : Nat) (vs : List Value), k ≤ ns.length ∧ i = .int .i64 k ∧ Hid (wr.rowIs w.heap.size 50 (ns.length * 4) (fun j => (cellsN (ns.take k) vs)[j]?.getD (zNd j))) ∧ Hid (KidsOwn w.heap.size wr vs (ns.take k)) ∧ Below w.heap.size w wr) (fun i _ => ns.length - (intOf i).toNat)
  case atStart =>
    refine ⟨0, [], Nat.zero_le _, rfl, ?_, KidsOwn.nil _ _, (Below.refl _ _).alloc (Nat.le_refl _) _⟩
    have := World.rowIs_alloc w (madeCells zrowN (ns.length * 4)) 50 zNd (fun i hi => by
      rw [size_madeCells] at hi
      unfold madeCells zNd
      have h4 : zrowN.size = 4 := rfl
      simp [hi, h4])
    rw [size_madeCells] at this
    exact this.congr (fun i hi => by simp [cellsN])
  case round =>
    obtain ⟨k, vs, hk, rfl, HC, HO, hb⟩ := hrel
    by_cases hlt : k < ns.length
    · obtain ⟨n, hx⟩ : ∃ h, ns[k]? = some h := ⟨_, List.getElem?_eq_getElem hlt⟩
      obtain ⟨b, off, kv, rfl, hbl, hN⟩ := HV.out.at hx
      obtain ⟨c0, c1, c2, c3, hI⟩ := hN.later hbl hb
      have HX : Hid (ns.take (k + 1) = ns.take k ++ [n]) := by show ns.take (k + 1) = _; rw [List.take_add_one, hx]; rfl
      have hlt' : (k : Int) < (ns.length : Int) := by omega
      have hszH := HC.out.lt
      have HTL : Hid ((ns.take k).length = k) := by show _ = _; rw [List.length_take]; omega
      have cE := toN_own n kv wr hI (HK.out n (List.mem_of_getElem? hx))
      clear hx hN hI hbl
      obtain ⟨kind, tag, text, kids⟩ := n
      go_wp2_with fail
      refine cE.mono ?_
      rintro e w1 ⟨⟨kv', rfl, hsl, ho⟩, hb1⟩
      obtain ⟨s0, s1, s2, rfl⟩ := hsl
      clear cE c0 c1 c2 c3
      have hrow := HC.out.of_block (hb1.block _ hszH)
      have hKO := HO.out.snoc (n := ⟨kind, tag, text, kids⟩) hb1 hb.size ho
      have k0 : w1.cell? ⟨w.heap.size, k * 4, none⟩ = some _ := hrow.cell (by omega)
      have k1 : w1.cell? ⟨w.heap.size, k * 4 + 1, none⟩ = some _ := hrow.cell (by omega)
      have k2 : w1.cell? ⟨w.heap.size, k * 4 + 2, none⟩ = some _ := hrow.cell (by omega)
      have k3 : w1.cell? ⟨w.heap.size, k * 4 + 3, none⟩ = some _ := hrow.cell (by omega)
      have f0 := hrow.frozen (k * 4)
      have f1 := hrow.frozen (k * 4 + 1)
      have f2 := hrow.frozen (k * 4 + 2)
      have f3 := hrow.frozen (k * 4 + 3)
      have hB1 : Below w.heap.size w w1 := hb.trans (hb1.mono hb.size)
      have RA : Hid (((((w1.setCell ⟨w.heap.size, k * 4, none⟩ (.int .i64 kind)).setCell ⟨w.heap.size, k * 4 + 1, none⟩ (.string tag)).setCell ⟨w.heap.size, k * 4 + 2, none⟩ (.string text)).setCell ⟨w.heap.size, k * 4 + 3, none⟩ (.slice s0 s1 s2)).rowIs w.heap.size 50 (ns.length * 4) (fun j => (cellsN (ns.take (k + 1)) (vs ++ [.slice s0 s1 s2]))[j]?.getD (zNd j))) := by
        show World.rowIs _ _ _ _ _
        rw [HX.out]
        exact ((((hrow.set (k * 4) _).set (k * 4 + 1) _).set (k * 4 + 2) _).set (k * 4 + 3) _).congr (fun j _ => cellsN_step HTL.out HO.out.len ⟨kind, tag, text, kids⟩ _ j)
      have RK : Hid (KidsOwn w.heap.size ((((w1.setCell ⟨w.heap.size, k * 4, none⟩ (.int .i64 kind)).setCell ⟨w.heap.size, k * 4 + 1, none⟩ (.string tag)).setCell ⟨w.heap.size, k * 4 + 2, none⟩ (.string text)).setCell ⟨w.heap.size, k * 4 + 3, none⟩ (.slice s0 s1 s2)) (vs ++ [.slice s0 s1 s2]) (ns.take (k + 1))) := by
        show KidsOwn _ _ _ _
        rw [HX.out]
        refine hKO.block (fun i u x hu hx => ?_)
        obtain ⟨m, hm⟩ := hKO.get hu
        obtain ⟨cs, fr, ht⟩ := own_type (hKO.own i u m hu hm) hx
        have hne : x ≠ w.heap.size := by
          rintro rfl
          obtain ⟨c', hc', _, _⟩ := hrow
          rw [hc'] at ht
          cases ht
        rw [heap_setCell_other _ _ _ _ hne, heap_setCell_other _ _ _ _ hne, heap_setCell_other _ _ _ _ hne, heap_setCell_other _ _ _ _ hne]
      have RB : Hid (Below w.heap.size w ((((w1.setCell ⟨w.heap.size, k * 4, none⟩ (.int .i64 kind)).setCell ⟨w.heap.size, k * 4 + 1, none⟩ (.string tag)).setCell ⟨w.heap.size, k * 4 + 2, none⟩ (.string text)).setCell ⟨w.heap.size, k * 4 + 3, none⟩ (.slice s0 s1 s2))) := (((hB1.setCell (Nat.le_refl _) _).setCell (Nat.le_refl _) _).setCell (Nat.le_refl _) _).setCell (Nat.le_refl _) _
      clear hb1 hrow HC hB1 HO ho hKO hb
      go_wp2_with fail
      go_roundw
      case rel => exact ⟨k + 1, _, hlt, by go_num, RA, RK, RB.out⟩
      case measure => simp [intOf]; omega
    · have hge : ¬ (k : Int) < (ns.length : Int) := by omega
      go_wp2_with fail
      go_ret
      have ek : k = ns.length := by omega
      have hrow := HC.out
      have hKO := HO.out
      rw [ek, List.take_length] at hrow hKO
      refine ⟨⟨rfl, vs, ?_, hKO⟩, hb⟩
      exact g_own_of_row (m := ns.length) hrow rfl (cellsN_len ns vs hKO.len) (fun i hi => by
        have hl2 : i < (cellsN ns vs).length := by rw [cellsN_len ns vs hKO.len]; exact hi
        rw [List.getElem?_eq_getElem hl2]
        rfl) (by unfold maxLen; omega) (Nat.le_refl _)
end Go.Proofs.Ytgaibajkegfpoaa
