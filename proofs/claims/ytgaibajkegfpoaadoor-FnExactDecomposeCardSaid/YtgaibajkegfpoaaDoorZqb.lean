/- Several texts in one: Ggo Gsg Gok. -/
import Derived.Test.YtgaibajkegfpoaaDoorGsn
import Derived.Laws.OwnMore
/- Going through a graph: plain, and spec.l15Go. -/
namespace Go.Proofs.YtgaibajkegfpoaaDoor
open Go.ChangeShapes Go.WideShapes Go.ChangeAt Go.RowKit Go.Deep
/-- What is known on the way: which nodes were met, how many, and whether one was met badly. -/
structure Ws where
  seen : List Int
  next : Int
  bad : Bool
def kidsOf (g : Gr) (i : Nat) : List Int := match g.nodes[i]? with | some n => n.kids | none => []
/-- A node is met; f is more than the nodes that weren't. -/
def goW (g : Gr) : Nat → Nat → Ws → Ws
  | 0, _, st => st
  | f + 1, i, st =>
    if st.bad = true ∨ st.seen.getD i 0 = 1 ∨ (st.seen.getD i 0 = 0 ∧ (i : Int) ≠ st.next) ∨ st.seen.getD i 0 = 3 then { st with bad := true }
    else if st.seen.getD i 0 = 2 then st
    else
      let st2 := (kidsOf g i).foldl (fun t k => goW g f k.toNat t) { st with seen := st.seen.set i 1, next := st.next + 1 }
      { st2 with seen := st2.seen.set i 2 }
def zeros (l : List Int) : Nat := l.countP fun x => x == 0
theorem zeros_set {l : List Int} {i : Nat} {v : Int} (hv : v ≠ 0) : zeros (l.set i v) ≤ zeros l := by
  unfold zeros
  induction l generalizing i with
  | nil => simp
  | cons x t ih =>
    cases i with
    | zero =>
      have h0 : (v == 0) = false := by rw [beq_eq_false_iff_ne]; exact hv
      simp only [List.set_cons_zero, List.countP_cons, h0]
      simp
    | succ i =>
      have := ih (i := i)
      simp only [List.set_cons_succ, List.countP_cons]
      omega
theorem zeros_met {l : List Int} {i : Nat} {v : Int} (hv : v ≠ 0) (hi : l[i]? = some 0) : zeros (l.set i v) + 1 = zeros l := by
  unfold zeros
  induction l generalizing i with
  | nil => simp at hi
  | cons x t ih =>
    cases i with
    | zero =>
      obtain rfl : x = 0 := by simpa using hi
      have h0 : (v == 0) = false := by rw [beq_eq_false_iff_ne]; exact hv
      simp [h0]
    | succ i =>
      have := ih (i := i) (by simpa using hi)
      simp only [List.set_cons_succ, List.countP_cons]
      omega
theorem goW_keep (g : Gr) : ∀ (f i : Nat) (st : Ws), (goW g f i st).seen.length = st.seen.length ∧ zeros (goW g f i st).seen ≤ zeros st.seen
  | 0, i, st => ⟨rfl, Nat.le_refl _⟩
  | f + 1, i, st => by
    rw [goW]
    split
    · exact ⟨rfl, Nat.le_refl _⟩
    · split
      · exact ⟨rfl, Nat.le_refl _⟩
      · have fold : ∀ (l : List Int) (t : Ws), (l.foldl (fun t k => goW g f k.toNat t) t).seen.length = t.seen.length ∧ zeros (l.foldl (fun t k => goW g f k.toNat t) t).seen ≤ zeros t.seen := by
          intro l
          induction l with
          | nil => exact fun t => ⟨rfl, Nat.le_refl _⟩
          | cons k l ih =>
            intro t
            have h1 := goW_keep g f k.toNat t
            have h2 := ih (goW g f k.toNat t)
            exact ⟨h2.1.trans h1.1, Nat.le_trans h2.2 h1.2⟩
        have h := fold (kidsOf g i) { st with seen := st.seen.set i 1, next := st.next + 1 }
        refine ⟨?_, ?_⟩
        · show (List.set _ i 2).length = _
          rw [List.length_set, h.1]
          exact List.length_set
        · refine Nat.le_trans (zeros_set (by decide)) (Nat.le_trans h.2 (zeros_set (by decide)))
/-- The walk in memory: the graph's lists, a row of its own for what was met. -/
structure WAt (w0 : World) (B S c : Nat) (nv rv : Value) (st : Ws) (w : World) : Prop where
  blk : w.heap[B]? = some (.cells #[nv, rv, .slice (some ⟨S, 0, none⟩) st.seen.length c, .int .i64 st.next, .bool st.bad] 71 (0, 0))
  row : w.ownsRow w0.heap.size 3 1 (.slice (some ⟨S, 0, none⟩) st.seen.length c) st.seen.length (ilV st.seen)
  lo : w0.heap.size ≤ B
  ne : B ≠ S
  below : Below w0.heap.size w0 w
section
variable {w0 w : World} {B S c : Nat} {nv rv : Value} {st : Ws}
theorem WAt.cells (h : WAt w0 B S c nv rv st w) : w.cell? ⟨B, 0, none⟩ = some nv ∧ w.cell? ⟨B, 1, none⟩ = some rv ∧ w.cell? ⟨B, 2, none⟩ = some (.slice (some ⟨S, 0, none⟩) st.seen.length c) ∧ w.cell? ⟨B, 3, none⟩ = some (.int .i64 st.next) ∧ w.cell? ⟨B, 4, none⟩ = some (.bool st.bad) := by
  have := h.blk
  simp [World.cell?, this]
theorem WAt.fz (h : WAt w0 B S c nv rv st w) (i : Nat) : w.frozen? ⟨B, i, none⟩ = false := by simp [World.frozen?, h.blk]
theorem WAt.seenAt (h : WAt w0 B S c nv rv st w) {i : Nat} (hi : i < st.seen.length) : w.cell? ⟨S, i, none⟩ = some (.int .i64 (st.seen.getD i 0)) ∧ w.frozen? ⟨S, i, none⟩ = false := by
  refine ⟨?_, h.row.frozenAt i⟩
  rw [h.row.cellAt i (by omega)]
  unfold ilV
  rw [List.getElem?_map, List.getElem?_eq_getElem hi]
  simp [List.getD, List.getElem?_eq_getElem hi]
theorem WAt.slo (h : WAt w0 B S c nv rv st w) : w0.heap.size ≤ S ∧ S < w.heap.size := h.row.lt S rfl
theorem WAt.setSeen (h : WAt w0 B S c nv rv st w) (i : Nat) (v : Int) : WAt w0 B S c nv rv { st with seen := st.seen.set i v } (w.setCell ⟨S, i, none⟩ (.int .i64 v)) := by
  refine ⟨?_, ?_, h.lo, h.ne, h.below.setCell (by show w0.heap.size ≤ S; exact h.slo.1) _⟩
  · rw [heap_setCell_other _ _ _ _ (by show B ≠ S; exact h.ne), List.length_set]
    exact h.blk
  · have h1 := (h.row.stored i (.int .i64 v)).1
    have e : ilV (st.seen.set i v) = (ilV st.seen).set i (.int .i64 v) := by unfold ilV; rw [List.map_set]
    rw [e, List.length_set]
    exact h1
theorem WAt.setNext (h : WAt w0 B S c nv rv st w) (v : Int) : WAt w0 B S c nv rv { st with next := v } (w.setCell ⟨B, 3, none⟩ (.int .i64 v)) := by
  refine ⟨?_, ?_, h.lo, h.ne, h.below.setCell (by show w0.heap.size ≤ B; exact h.lo) _⟩
  · have := h.blk
    simp [World.setCell, Array.getElem?_modify, this]
  · exact g_row_block h.row (fun g hg => heap_setCell_other _ _ _ _ (by
      have : S = g := by simpa [Value.ownBlock] using hg
      show g ≠ B
      rw [← this]
      exact h.ne.symm))
theorem WAt.setBad (h : WAt w0 B S c nv rv st w) : WAt w0 B S c nv rv { st with bad := true } (w.setCell ⟨B, 4, none⟩ (.bool true)) := by
  refine ⟨?_, ?_, h.lo, h.ne, h.below.setCell (by show w0.heap.size ≤ B; exact h.lo) _⟩
  · have := h.blk
    simp [World.setCell, Array.getElem?_modify, this]
  · exact g_row_block h.row (fun g hg => heap_setCell_other _ _ _ _ (by
      have : S = g := by simpa [Value.ownBlock] using hg
      show g ≠ B
      rw [← this]
      exact h.ne.symm))
end
/-- What holds on the way. -/
structure WInv (g : Gr) (st : Ws) : Prop where
  len : st.seen.length = g.nodes.length
  ok : ∀ x ∈ st.seen, 0 ≤ x ∧ x ≤ 3
  nx0 : 0 ≤ st.next
  nx : st.next + (zeros st.seen : Int) ≤ 1048576
theorem ok_set {l : List Int} {i : Nat} {v : Int} (h : ∀ x ∈ l, 0 ≤ x ∧ x ≤ 3) (hv : 0 ≤ v ∧ v ≤ 3) : ∀ x ∈ l.set i v, 0 ≤ x ∧ x ≤ 3 := fun x hx => by
  rcases List.mem_or_eq_of_mem_set hx with h1 | rfl
  · exact h x h1
  · exact hv
/-- A node that is neither met badly nor ended wasn't met, and is the next one. -/
theorem met_new {g : Gr} {st : Ws} {i : Nat} (hI : WInv g st) (hi : i < g.nodes.length) (h1 : ¬ (st.bad = true ∨ st.seen.getD i 0 = 1 ∨ (st.seen.getD i 0 = 0 ∧ (i : Int) ≠ st.next) ∨ st.seen.getD i 0 = 3)) (h2 : ¬ st.seen.getD i 0 = 2) : st.bad = false ∧ st.seen[i]? = some 0 ∧ (i : Int) = st.next := by
  have hl : i < st.seen.length := by rw [hI.len]; exact hi
  have hg : st.seen[i]? = some st.seen[i] := List.getElem?_eq_getElem hl
  have hd : st.seen.getD i 0 = st.seen[i] := by simp [List.getD, hg]
  have hr := hI.ok _ (List.getElem_mem hl)
  rw [hd] at h1 h2
  have h0 : st.seen[i] = 0 := by
    have a : st.seen[i] ≠ 1 := fun h => h1 (.inr (.inl h))
    have b : st.seen[i] ≠ 3 := fun h => h1 (.inr (.inr (.inr h)))
    omega
  refine ⟨?_, by rw [hg, h0], ?_⟩
  · cases hb : st.bad with
    | false => rfl
    | true => exact absurd (.inl hb) h1
  · rcases Int.decEq (i : Int) st.next with h | h
    · exact absurd (.inr (.inr (.inl ⟨h0, h⟩))) h1
    · exact h
theorem inv_enter {g : Gr} {st : Ws} {i : Nat} (hI : WInv g st) (h0 : st.seen[i]? = some 0) : WInv g { st with seen := st.seen.set i 1, next := st.next + 1 } ∧ zeros (st.seen.set i 1) + 1 = zeros st.seen := by
  have hz := zeros_met (v := 1) (by decide) h0
  refine ⟨⟨?_, ok_set hI.ok (by decide), ?_, ?_⟩, hz⟩
  · show (st.seen.set i 1).length = _
    rw [List.length_set]
    exact hI.len
  · show 0 ≤ st.next + 1
    have := hI.nx0
    omega
  · show st.next + 1 + (zeros (st.seen.set i 1) : Int) ≤ 1048576
    have := hI.nx
    omega
theorem inv_leave {g : Gr} {st : Ws} {i : Nat} {v : Int} (hv : 0 < v ∧ v ≤ 3) (hI : WInv g st) : WInv g { st with seen := st.seen.set i v } := by
  refine ⟨?_, ok_set hI.ok ⟨by omega, hv.2⟩, hI.nx0, ?_⟩
  · show (st.seen.set i v).length = _
    rw [List.length_set]
    exact hI.len
  · show st.next + (zeros (st.seen.set i v) : Int) ≤ 1048576
    have := zeros_set (l := st.seen) (i := i) (v := v) (by omega)
    have := hI.nx
    omega
theorem goW_inv (g : Gr) (hk : ∀ i, ∀ k ∈ kidsOf g i, 0 ≤ k ∧ k < (g.nodes.length : Int)) : ∀ (f i : Nat) (st : Ws), i < g.nodes.length → WInv g st → WInv g (goW g f i st)
  | 0, i, st, _, h => h
  | f + 1, i, st, hi, h => by
    rw [goW]
    split
    · exact ⟨h.len, h.ok, h.nx0, h.nx⟩
    · split
      · exact h
      · rename_i h1 h2
        obtain ⟨_, h0, _⟩ := met_new h hi h1 h2
        have fold : ∀ (l : List Int) (t : Ws), (∀ k ∈ l, 0 ≤ k ∧ k < (g.nodes.length : Int)) → WInv g t → WInv g (l.foldl (fun t k => goW g f k.toNat t) t) := by
          intro l
          induction l with
          | nil => exact fun t _ ht => ht
          | cons k l ih =>
            intro t hl ht
            have hk0 := hl k (List.mem_cons_self ..)
            exact ih _ (fun x hx => hl x (List.mem_cons_of_mem _ hx)) (goW_inv g hk f k.toNat t (by omega) ht)
        exact inv_leave (by decide) (fold (kidsOf g i) _ (hk i) (inv_enter h h0).1)
end Go.Proofs.YtgaibajkegfpoaaDoor
/- spec.l15Go goes through a graph as the plain function does. -/
namespace Go.Proofs.YtgaibajkegfpoaaDoor
open Go.ChangeShapes Go.WideShapes Go.ChangeAt Go.RowKit Go.Deep
/-- What is promised of l15Go, with so much fuel. -/
def GoC (w0 : World) (B S c : Nat) (nv rv : Value) (g : Gr) (f : Nat) : Prop := ∀ (i : Nat) (st : Ws) (w : World), WAt w0 B S c nv rv st w → WInv g st → zeros st.seen < f → i < g.nodes.length →
  Calls Tryd.prog 32 #[.pointer (some ⟨B, 0, none⟩), .int .i64 (i : Int)] w fun e w' => e = .returned (.tuple #[]) ∧ WAt w0 B S c nv rv (goW g f i st) w'
theorem kids_at {g : Gr} {i : Nat} {n : Nd} (h : g.nodes[i]? = some n) : kidsOf g i = n.kids := by unfold kidsOf; rw [h]
theorem goW_bad {g : Gr} {f i : Nat} {st : Ws} (h : st.bad = true ∨ st.seen.getD i 0 = 1 ∨ (st.seen.getD i 0 = 0 ∧ (i : Int) ≠ st.next) ∨ st.seen.getD i 0 = 3) : goW g (f + 1) i st = { st with bad := true } := by rw [goW, if_pos h]
theorem goW_met {g : Gr} {f i : Nat} {st : Ws} (h1 : ¬ (st.bad = true ∨ st.seen.getD i 0 = 1 ∨ (st.seen.getD i 0 = 0 ∧ (i : Int) ≠ st.next) ∨ st.seen.getD i 0 = 3)) (h : st.seen.getD i 0 = 2) : goW g (f + 1) i st = st := by rw [goW, if_neg h1, if_pos h]
theorem goW_new {g : Gr} {f i : Nat} {st : Ws} (h1 : ¬ (st.bad = true ∨ st.seen.getD i 0 = 1 ∨ (st.seen.getD i 0 = 0 ∧ (i : Int) ≠ st.next) ∨ st.seen.getD i 0 = 3)) (h : ¬ st.seen.getD i 0 = 2) :
    goW g (f + 1) i st = { (kidsOf g i).foldl (fun t k => goW g f k.toNat t) { st with seen := st.seen.set i 1, next := st.next + 1 } with seen := ((kidsOf g i).foldl (fun t k => goW g f k.toNat t) { st with seen := st.seen.set i 1, next := st.next + 1 }).seen.set i 2 } := by rw [goW, if_neg h1, if_neg h]
theorem fold_take {g : Gr} {f : Nat} {l : List Int} {k : Nat} {x : Int} (h : l[k]? = some x) (st : Ws) : (l.take (k + 1)).foldl (fun t k => goW g f k.toNat t) st = goW g f x.toNat ((l.take k).foldl (fun t k => goW g f k.toNat t) st) := by
  rw [List.take_add_one, h, List.foldl_append]
  rfl
theorem fold_inv {g : Gr} (hk : ∀ i, ∀ k ∈ kidsOf g i, 0 ≤ k ∧ k < (g.nodes.length : Int)) (f : Nat) : ∀ (l : List Int) (t : Ws), (∀ k ∈ l, 0 ≤ k ∧ k < (g.nodes.length : Int)) → WInv g t → WInv g (l.foldl (fun t k => goW g f k.toNat t) t) ∧ zeros (l.foldl (fun t k => goW g f k.toNat t) t).seen ≤ zeros t.seen
  | [], t, _, h => ⟨h, Nat.le_refl _⟩
  | k :: l, t, hl, h => by
    have hk0 := hl k (List.mem_cons_self ..)
    have h1 := goW_inv g hk f k.toNat t (by omega) h
    have h2 := fold_inv hk f l _ (fun x hx => hl x (List.mem_cons_of_mem _ hx)) h1
    exact ⟨h2.1, Nat.le_trans h2.2 (goW_keep g f k.toNat t).2⟩
set_option maxHeartbeats 8000000 in
set_option maxRecDepth 100000 in
theorem go_step {w0 : World} {B S c : Nat} {nv rv : Value} {g : Gr} (hG : NlAt w0 nv g.nodes) (hk : ∀ i, ∀ k ∈ kidsOf g i, 0 ≤ k ∧ k < (g.nodes.length : Int)) (hlen : g.nodes.length ≤ 1048576) (hkl : ∀ n ∈ g.nodes, n.kids.length ≤ 1048576) {f : Nat} (IH : GoC w0 B S c nv rv g f) : GoC w0 B S c nv rv g (f + 1) := by
  intro i st w hW hI hz hi
  obtain ⟨na, nc, rfl⟩ := hG.sl
  have hl : i < st.seen.length := by rw [hI.len]; exact hi
  have hsl : st.seen.length ≤ 1048576 := by rw [hI.len]; exact hlen
  have hlI : (i : Int) < (st.seen.length : Int) := by omega
  have hslI : (st.seen.length : Int) ≤ 1048576 := by omega
  obtain ⟨c0, _, c2, c3, c4⟩ := hW.cells
  obtain ⟨d0, d1⟩ := hW.seenAt hl
  have f3 := hW.fz 3
  have f4 := hW.fz 4
  obtain ⟨sv, hsv⟩ : ∃ sv, st.seen.getD i 0 = sv := ⟨_, rfl⟩
  have HSV : Hid (st.seen.getD i 0 = sv) := hsv
  rw [hsv] at d0
  have hn0 := hI.nx0
  have hn1 : st.next ≤ 1048576 := by have := hI.nx; omega
  have HW : Hid (WAt w0 B S c (.slice na g.nodes.length nc) rv st w) := hW
  have HI : Hid (WInv g st) := hI
  by_cases hb : st.bad = true
  · have HO : Hid (goW g (f + 1) i st = { st with bad := true }) := goW_bad (.inl hb)
    rw [hb] at c4
    clear hW hI hb hsv
    go_enter Tryd.func32, Tryd.ntmps32
    go_wp2_with fail
    refine bodyPost_ret (results_none rfl _ _ _) rfl ?_
    exact ⟨rfl, by rw [HO.out]; exact HW.out.setBad⟩
  have hb : st.bad = false := by simpa using hb
  rw [hb] at c4
  by_cases s1 : sv = 1
  · have HO : Hid (goW g (f + 1) i st = { st with bad := true }) := goW_bad (.inr (.inl (by rw [hsv]; exact s1)))
    subst s1
    clear hW hI hb hsv
    go_enter Tryd.func32, Tryd.ntmps32
    go_wp2_with fail
    refine bodyPost_ret (results_none rfl _ _ _) rfl ?_
    exact ⟨rfl, by rw [HO.out]; exact HW.out.setBad⟩
  by_cases s0 : sv = 0
  case neg =>
    have t1 : (sv == 1) = false := by rw [beq_eq_false_iff_ne]; exact s1
    have t0 : (sv == 0) = false := by rw [beq_eq_false_iff_ne]; exact s0
    by_cases s3 : sv = 3
    · have HO : Hid (goW g (f + 1) i st = { st with bad := true }) := goW_bad (.inr (.inr (.inr (by rw [hsv]; exact s3))))
      subst s3
      clear hW hI hb hsv s1 s0
      go_enter Tryd.func32, Tryd.ntmps32
      go_wp2_with fail
      refine bodyPost_ret (results_none rfl _ _ _) rfl ?_
      exact ⟨rfl, by rw [HO.out]; exact HW.out.setBad⟩
    · have hr := hI.ok _ (List.getElem_mem hl)
      have hd : st.seen.getD i 0 = st.seen[i] := by simp [List.getD, List.getElem?_eq_getElem hl]
      rw [← hd, hsv] at hr
      obtain rfl : sv = 2 := by omega
      have HO : Hid (goW g (f + 1) i st = st) := goW_met (by rw [hsv, hb]; rintro (h | h | ⟨h, _⟩ | h) <;> first | cases h | omega) hsv
      clear hW hI hb hsv s1 s0 s3 hr hd
      go_enter Tryd.func32, Tryd.ntmps32
      go_wp2_with fail
      refine bodyPost_ret (results_none rfl _ _ _) rfl ?_
      exact ⟨rfl, by rw [HO.out]; exact HW.out⟩
  subst s0
  by_cases hn : (i : Int) = st.next
  case neg =>
    have HO : Hid (goW g (f + 1) i st = { st with bad := true }) := goW_bad (.inr (.inr (.inl ⟨hsv, hn⟩)))
    have tn : ((i : Int) != st.next) = true := by rw [bne_iff_ne]; exact hn
    clear hW hI hb hsv hn
    go_enter Tryd.func32, Tryd.ntmps32
    go_wp2_with fail
    refine bodyPost_ret (results_none rfl _ _ _) rfl ?_
    exact ⟨rfl, by rw [HO.out]; exact HW.out.setBad⟩
  have hnx : st.next = (i : Int) := hn.symm
  rw [hnx] at c3
  have hnot : ¬ (st.bad = true ∨ st.seen.getD i 0 = 1 ∨ (st.seen.getD i 0 = 0 ∧ (i : Int) ≠ st.next) ∨ st.seen.getD i 0 = 3) := by
    rw [hsv, hb]
    rintro (h | h | ⟨_, h⟩ | h)
    · cases h
    · cases h
    · exact h hn
    · cases h
  have hnot2 : ¬ st.seen.getD i 0 = 2 := by rw [hsv]; decide
  obtain ⟨-, h0, -⟩ := met_new hI hi hnot hnot2
  obtain ⟨hI1, hz1⟩ := inv_enter hI h0
  obtain ⟨n, hx⟩ : ∃ n, g.nodes[i]? = some n := ⟨_, List.getElem?_eq_getElem hi⟩
  have hkn := kids_at hx
  have HO := goW_new (g := g) (f := f) hnot hnot2
  rw [hkn, hnx] at HO
  rw [hnx] at hI1
  obtain ⟨st1, hst1⟩ : ∃ st1 : Ws, ({ st with seen := st.seen.set i 1, next := (i : Int) + 1 } : Ws) = st1 := ⟨_, rfl⟩
  rw [hst1] at HO hI1
  have hzf : zeros st1.seen < f := by rw [← hst1]; show zeros (st.seen.set i 1) < f; omega
  have hkk := hk i
  rw [hkn] at hkk
  have HF : Hid (∀ k, WInv g ((n.kids.take k).foldl (fun t k => goW g f k.toNat t) st1) ∧ zeros ((n.kids.take k).foldl (fun t k => goW g f k.toNat t) st1).seen ≤ zeros st1.seen) := fun k => fold_inv hk f (n.kids.take k) st1 (fun x hx => hkk x (List.mem_of_mem_take hx)) hI1
  have HKR : Hid (∀ x ∈ n.kids, 0 ≤ x ∧ x < (g.nodes.length : Int)) := hkk
  have HZF : Hid (zeros st1.seen < f) := hzf
  have HOO : Hid (goW g (f + 1) i st = { n.kids.foldl (fun t k => goW g f k.toNat t) st1 with seen := (n.kids.foldl (fun t k => goW g f k.toNat t) st1).seen.set i 2 }) := HO
  -- the two stores
  have W1 := hW.setNext ((i : Int) + 1)
  obtain ⟨a0, _, a2, _, _⟩ := W1.cells
  obtain ⟨e0, e1⟩ := W1.seenAt (i := i) hl
  have W2 := W1.setSeen i 1
  obtain ⟨b0, _, _, _, _⟩ := W2.cells
  have HW2 : Hid (WAt w0 B S c (.slice na g.nodes.length nc) rv st1 ((w.setCell ⟨B, 3, none⟩ (.int .i64 ((i : Int) + 1))).setCell ⟨S, i, none⟩ (.int .i64 1))) := by show WAt _ _ _ _ _ _ _ _; rw [← hst1]; exact W2
  obtain ⟨nb, no, kv, rfl, hnb, hN0⟩ := hG.at hx
  have hN := hN0.later hnb W2.below
  have n3 := hN.c3
  have hIk := hN0.kids
  obtain ⟨ka, kc, rfl⟩ := hIk.sl
  have HIK : Hid (IlAt w0 (.slice ka n.kids.length kc) n.kids) := hIk
  have hi' : (i : Int) < (g.nodes.length : Int) := by omega
  have hln' : (g.nodes.length : Int) ≤ 1048576 := by omega
  have hkl' : (n.kids.length : Int) ≤ 1048576 := by have := hkl n (List.mem_of_getElem? hx); omega
  have HIH : Hid (GoC w0 B S c (.slice (some ⟨nb, no, none⟩) g.nodes.length nc) rv g f) := IH
  have hiI : (i : Int) ≤ 1048576 := by omega
  have HIN : Hid (i < g.nodes.length ∧ g.nodes.length ≤ 1048576) := ⟨hi, hlen⟩
  clear hW hI HW HI hb hsv hn hnx hn0 hn1 hnot hnot2 h0 hI1 hz1 hkn HO hst1 hzf hkk W1 W2 hN hN0 hIk hk hkl IH HSV hG hx hnb hz
  go_enter Tryd.func32, Tryd.ntmps32
  go_wp2_with fail
  go_loopw [82] (fun iv wr => ∃ k : Nat, iv = .int .i64 k ∧ k ≤ n.kids.length ∧ Hid (WAt w0 B S c (.slice (some ⟨nb, no, none⟩) g.nodes.length nc) rv ((n.kids.take k).foldl (fun t k => goW g f k.toNat t) st1) wr)) (fun iv _ => n.kids.length - (intOf iv).toNat)
  case atStart => exact ⟨0, rfl, Nat.zero_le _, HW2⟩
  case round =>
    obtain ⟨k, rfl, hk, HR⟩ := hrel
    by_cases hlt : k < n.kids.length
    · have hltI : (k : Int) < (n.kids.length : Int) := by omega
      obtain ⟨x, hx⟩ : ∃ x, n.kids[k]? = some x := ⟨_, List.getElem?_eq_getElem hlt⟩
      obtain ⟨b, o, rfl, hbl, d⟩ := HIK.out.at hx
      rw [← HR.out.below.cell hbl] at d
      have hx0 := HKR.out x (List.mem_of_getElem? hx)
      obtain ⟨m, rfl⟩ := Int.eq_ofNat_of_zero_le hx0.1
      have hm : m < g.nodes.length := by omega
      have hmI : (m : Int) ≤ 1048576 := by omega
      have HC := HIH.out m _ _ HR.out (HF.out k).1 (Nat.lt_of_le_of_lt (HF.out k).2 HZF.out) hm
      have HS : Hid ((n.kids.take (k + 1)).foldl (fun t k => goW g f k.toNat t) st1 = goW g f m ((n.kids.take k).foldl (fun t k => goW g f k.toNat t) st1)) := by
        show _ = _
        have := fold_take (g := g) (f := f) hx st1
        simpa using this
      have HCH : Hid (Calls _ _ _ _ _) := HC
      clear hx hbl hx0 hm HC
      go_wp2_with fail
      refine HCH.out.mono ?_
      rintro e w1 ⟨rfl, HB⟩
      have HBH : Hid (WAt w0 B S c (.slice (some ⟨nb, no, none⟩) g.nodes.length nc) rv ((n.kids.take (k + 1)).foldl (fun t k => goW g f k.toNat t) st1) w1) := by show WAt _ _ _ _ _ _ _ _; rw [HS.out]; exact HB
      clear HB HR d
      go_wp2_with fail
      go_roundw
      case rel => exact ⟨k + 1, by go_num, hlt, HBH⟩
      case measure => simp [intOf]; omega
    · have hge : ¬ (k : Int) < (n.kids.length : Int) := by omega
      obtain rfl : k = n.kids.length := by omega
      have HJ := (HF.out n.kids.length).1
      rw [List.take_length] at HJ
      obtain ⟨t, ht⟩ : ∃ t, n.kids.foldl (fun t k => goW g f k.toNat t) st1 = t := ⟨_, rfl⟩
      rw [ht] at HJ
      have HO := HOO.out
      have HT := HR.out
      rw [List.take_length] at HT
      rw [ht] at HO HT
      have htl : t.seen.length = g.nodes.length := HJ.len
      have htl1 : i < t.seen.length := by rw [htl]; exact HIN.out.1
      have htl2 : (i : Int) < (t.seen.length : Int) := by omega
      have htl3 : (t.seen.length : Int) ≤ 1048576 := by have := HIN.out.2; omega
      obtain ⟨_, _, u2, _, _⟩ := HT.cells
      obtain ⟨_, v1⟩ := HT.seenAt htl1
      have HOH : Hid (goW g (f + 1) i st = { t with seen := t.seen.set i 2 }) := HO
      have HTH := HT.setSeen i 2
      have HTI : Hid (WAt _ _ _ _ _ _ _ _) := HTH
      clear HJ HO HT ht HTH HOO HF HR htl htl1
      go_wp2_with fail
      go_end0
      exact ⟨rfl, by rw [HOH.out]; exact HTI.out⟩
theorem go_all {w0 : World} {B S c : Nat} {nv rv : Value} {g : Gr} (hG : NlAt w0 nv g.nodes) (hk : ∀ i, ∀ k ∈ kidsOf g i, 0 ≤ k ∧ k < (g.nodes.length : Int)) (hlen : g.nodes.length ≤ 1048576) (hkl : ∀ n ∈ g.nodes, n.kids.length ≤ 1048576) : ∀ f, GoC w0 B S c nv rv g f
  | 0 => fun _ _ _ _ _ hz _ => absurd hz (Nat.not_lt_zero _)
  | f + 1 => go_step hG hk hlen hkl (go_all hG hk hlen hkl f)
end Go.Proofs.YtgaibajkegfpoaaDoor
/- When a graph is right: plain, and spec.GraphOk. -/
namespace Go.Proofs.YtgaibajkegfpoaaDoor
open Go.ChangeShapes Go.WideShapes Go.ChangeAt Go.RowKit Go.Deep
/-- What was ended by an elder root is marked so. -/
def thrK : Nat → List Int → List Int
  | 0, l => l
  | k + 1, l => if (thrK k l).getD k 0 = 2 then (thrK k l).set k 3 else thrK k l
def endRoot (g : Gr) (f : Nat) (st : Ws) (r : Nat) : Ws := { goW g f r st with seen := thrK g.nodes.length (goW g f r st).seen }
def graphOkP (g : Gr) : Bool := decide (g.nodes.length ≤ 3000) && (g.nodes.all (fun n => nodeOkG n g.nodes.length) && (kidsIn g.nodes.length g.roots &&
  (let st := g.roots.foldl (fun t r => endRoot g (g.nodes.length + 1) t r.toNat) ⟨List.replicate g.nodes.length 0, 0, false⟩
   !st.bad && decide (st.next = (g.nodes.length : Int)))))
theorem thrK_len (k : Nat) (l : List Int) : (thrK k l).length = l.length := by
  induction k with
  | zero => rfl
  | succ k ih =>
    rw [thrK]
    split
    · rw [List.length_set]; exact ih
    · exact ih
theorem thrK_inv {g : Gr} {st : Ws} (h : WInv g st) (k : Nat) : WInv g { st with seen := thrK k st.seen } := by
  induction k with
  | zero => exact h
  | succ k ih =>
    rw [thrK]
    split
    · have := inv_leave (i := k) (v := 3) (by decide) ih
      exact this
    · exact ih
theorem endRoot_inv {g : Gr} (hk : ∀ i, ∀ k ∈ kidsOf g i, 0 ≤ k ∧ k < (g.nodes.length : Int)) {f : Nat} {st : Ws} {r : Nat} (hr : r < g.nodes.length) (h : WInv g st) : WInv g (endRoot g f st r) := thrK_inv (goW_inv g hk f r st hr h) _
theorem zeros_len (l : List Int) : zeros l ≤ l.length := List.countP_le_length
theorem roots_inv {g : Gr} (hk : ∀ i, ∀ k ∈ kidsOf g i, 0 ≤ k ∧ k < (g.nodes.length : Int)) (f : Nat) : ∀ (l : List Int) (st : Ws), (∀ r ∈ l, 0 ≤ r ∧ r < (g.nodes.length : Int)) → WInv g st → WInv g (l.foldl (fun t r => endRoot g f t r.toNat) st)
  | [], _, _, h => h
  | r :: l, st, hl, h => by
    have h0 := hl r (List.mem_cons_self ..)
    exact roots_inv hk f l _ (fun x hx => hl x (List.mem_cons_of_mem _ hx)) (endRoot_inv hk (by omega) h)
theorem start_inv {g : Gr} (h : g.nodes.length ≤ 3000) : WInv g ⟨List.replicate g.nodes.length 0, 0, false⟩ := by
  refine ⟨by simp, fun x hx => ?_, Int.le_refl _, ?_⟩
  · obtain rfl := List.eq_of_mem_replicate hx
    decide
  · have := zeros_len (List.replicate g.nodes.length 0)
    simp only [List.length_replicate] at this
    show (0 : Int) + (zeros (List.replicate g.nodes.length 0) : Int) ≤ 1048576
    omega
theorem kids_in {g : Gr} (h : g.nodes.all (fun n => nodeOkG n g.nodes.length) = true) : ∀ i, ∀ k ∈ kidsOf g i, 0 ≤ k ∧ k < (g.nodes.length : Int) := by
  intro i k hk
  unfold kidsOf at hk
  cases e : g.nodes[i]? with
  | none => rw [e] at hk; cases hk
  | some n =>
    rw [e] at hk
    rw [List.all_eq_true] at h
    have h1 := h n (List.mem_of_getElem? e)
    unfold nodeOkG at h1
    rw [Bool.and_eq_true] at h1
    have h2 := h1.2
    unfold kidsIn at h2
    rw [List.all_eq_true] at h2
    exact of_decide_eq_true (h2 k hk)
theorem ok_many {g : Gr} (h : 3000 < g.nodes.length) : graphOkP g = false := by unfold graphOkP; simp [show ¬ g.nodes.length ≤ 3000 by omega]
theorem ok_node {g : Gr} {k : Nat} {n : Nd} (hx : g.nodes[k]? = some n) (h : nodeOkG n g.nodes.length = false) : graphOkP g = false := by
  have : g.nodes.all (fun n => nodeOkG n g.nodes.length) = false := by
    rw [Bool.eq_false_iff]
    intro ha
    rw [List.all_eq_true] at ha
    rw [ha n (List.mem_of_getElem? hx)] at h
    cases h
  unfold graphOkP
  rw [this]
  simp
theorem ok_root {g : Gr} {k : Nat} {x : Int} (hx : g.roots[k]? = some x) (h : ¬ (0 ≤ x ∧ x < (g.nodes.length : Int))) : graphOkP g = false := by
  unfold graphOkP
  rw [kids_no hx h]
  simp
theorem ok_end {g : Gr} (h1 : g.nodes.length ≤ 3000) (h2 : g.nodes.all (fun n => nodeOkG n g.nodes.length) = true) (h3 : kidsIn g.nodes.length g.roots = true) {st : Ws} (h : g.roots.foldl (fun t r => endRoot g (g.nodes.length + 1) t r.toNat) ⟨List.replicate g.nodes.length 0, 0, false⟩ = st) : graphOkP g = (!st.bad && decide (st.next = (g.nodes.length : Int))) := by
  unfold graphOkP
  rw [h2, h3, h]
  simp [h1]
theorem roots_take {g : Gr} {f : Nat} {l : List Int} {k : Nat} {x : Int} (h : l[k]? = some x) (st : Ws) : (l.take (k + 1)).foldl (fun t r => endRoot g f t r.toNat) st = endRoot g f ((l.take k).foldl (fun t r => endRoot g f t r.toNat) st) x.toNat := by
  rw [List.take_add_one, h, List.foldl_append]
  rfl
theorem made_ints (N : Nat) : (madeCells #[.int .i64 0] N).toList = ilV (List.replicate N 0) := by
  apply List.ext_getElem
  · simp [size_madeCells, ilV]
  · intro i h1 h2
    simp [madeCells, ilV, Nat.mod_one]
theorem wat_start (w : World) (nv rv : Value) (N : Nat) (hN : N ≤ 3000) : WAt w (w.heap.size + 1) w.heap.size N nv rv ⟨List.replicate N 0, 0, false⟩ (((w.alloc (.cells (madeCells #[.int .i64 0] N) 3)).alloc (.cells #[nv, rv, .slice (some ⟨w.heap.size, 0, none⟩) N N, .int .i64 0, .bool false] 71)).drew) := by
  have hz : (w.alloc (.cells (madeCells #[.int .i64 0] N) 3)).heap.size = w.heap.size + 1 := by simp
  have hlt : w.heap.size < (w.alloc (.cells (madeCells #[.int .i64 0] N) 3)).heap.size := by simp
  refine ⟨?_, ?_, Nat.le_succ _, Nat.succ_ne_self _, ?_⟩
  · have h := heap_alloc_new (w.alloc (.cells (madeCells #[.int .i64 0] N) 3)) (.cells #[nv, rv, .slice (some ⟨w.heap.size, 0, none⟩) N N, .int .i64 0, .bool false] 71)
    rw [hz] at h
    simp only [List.length_replicate]
    exact h
  · simp only [List.length_replicate]
    refine ⟨by simp [ilV], .inr ⟨w.heap.size, N, madeCells #[.int .i64 0] N, rfl, Nat.le_refl _, ?_, Nat.le_refl _, by unfold maxLen; omega, by simp [size_madeCells], ?_⟩⟩
    · have h := heap_alloc_new w (.cells (madeCells #[.int .i64 0] N) 3)
      have h2 := ((Below.refl _ _).alloc (Nat.le_refl _) (.cells #[nv, rv, .slice (some ⟨w.heap.size, 0, none⟩) N N, .int .i64 0, .bool false] 71)).block w.heap.size hlt
      exact h2.trans h
    · rw [made_ints]
      exact List.take_of_length_le (by simp [ilV])
  · exact (((Below.refl _ w).alloc (Nat.le_refl _) _).alloc (by simp) _).drew
end Go.Proofs.YtgaibajkegfpoaaDoor
