/- Several texts in one: Geq Gsn Ggo Gsg Gok. -/
import Derived.Test.YtkdlakcmhdiojaaZqad
import Derived.Laws.OwnMore
/- Two graphs that are alike, held against each other. -/
namespace Go.Proofs.Ytkdlakcmhdiojaa
open Go.ChangeShapes Go.WideShapes Go.ChangeAt Go.RowKit Go.Deep
theorem g_below_drewN (w : World) (n : Nat) : Below w.heap.size w (w.drewN n) := by
  induction n with
  | zero => exact Below.refl _ _
  | succ n ih => exact ih.drew
set_option maxHeartbeats 4000000 in
theorem eqIl_same (v u : Value) (l : List Int) (w : World) (hV : IlAt w v l) (hU : IlAt w u l) (hl : l.length ≤ 1048576) :
    Calls Try.prog 32 #[v, u] w fun e w' => e = .returned (.bool true) ∧ Below w.heap.size w w' := by
  obtain ⟨a, c, rfl⟩ := hV.sl
  obtain ⟨a2, c2, rfl⟩ := hU.sl
  have HV : Hid (IlAt w (.slice a l.length c) l) := hV
  have HU : Hid (IlAt w (.slice a2 l.length c2) l) := hU
  have hl' : (l.length : Int) ≤ 1048576 := by omega
  clear hV hU
  go_enter Try.func32, Try.ntmps32
  go_wp2_with fail
  go_loopw [5] (fun kv wr => ∃ k : Nat, k ≤ l.length ∧ kv = .int .i64 (k : Int) ∧ Hid (Below w.heap.size w wr)) (fun kv _ => l.length - (intOf kv).toNat)
  case atStart => exact ⟨0, Nat.zero_le _, rfl, Below.refl _ _⟩
  case round =>
    obtain ⟨k, hk, rfl, HB⟩ := hrel
    by_cases hlt : k < l.length
    · have hlt' : (k : Int) < (l.length : Int) := by omega
      obtain ⟨n, hn⟩ : ∃ n, l[k]? = some n := ⟨_, List.getElem?_eq_getElem hlt⟩
      obtain ⟨b, o, rfl, _, d1⟩ := (HV.out.later HB.out).at hn
      obtain ⟨b2, o2, rfl, _, d2⟩ := (HU.out.later HB.out).at hn
      have tn : (n != n) = false := by simp
      clear hn
      go_wp2_with fail
      go_quiet (fail)
      have HB2 : Hid (Below w.heap.size w (wr.drewN nq)) := HB.out.trans ((g_below_drewN wr _).mono HB.out.size)
      clear HB
      go_wp2_with fail
      go_roundw
      case rel => exact ⟨k + 1, hlt, by go_num, HB2⟩
      case measure => simp [intOf]; omega
    · have hge : ¬ (k : Int) < (l.length : Int) := by omega
      go_wp2_with fail
      go_ret
      exact ⟨rfl, HB.out⟩
set_option maxHeartbeats 4000000 in
theorem eqNd_same (n : Nd) (v u : Value) (w : World) (hV : IlAt w v n.kids) (hU : IlAt w u n.kids) (hl : n.kids.length ≤ 1048576) :
    Calls Try.prog 54 #[.agg #[.int .i64 n.kind, .string n.tag, .string n.text, v], .agg #[.int .i64 n.kind, .string n.tag, .string n.text, u]] w fun e w' => e = .returned (.bool true) ∧ Below w.heap.size w w' := by
  obtain ⟨kind, tag, text, kids⟩ := n
  obtain ⟨a, c, rfl⟩ := hV.sl
  obtain ⟨a2, c2, rfl⟩ := hU.sl
  show Calls Try.prog 54 #[.agg #[.int .i64 kind, .string tag, .string text, .slice a kids.length c], .agg #[.int .i64 kind, .string tag, .string text, .slice a2 kids.length c2]] w fun e w' => e = .returned (.bool true) ∧ Below w.heap.size w w'
  have h1 : (kind != kind) = false := by simp
  have h2 : (tag.toList != tag.toList) = false := by simp
  have h3 : (text.toList != text.toList) = false := by simp
  have HB : Hid (Below w.heap.size w ((w.alloc (.cells #[.int .i64 kind, .string tag, .string text, .slice a kids.length c] 70)).alloc (.cells #[.int .i64 kind, .string tag, .string text, .slice a2 kids.length c2] 70))) := ((Below.refl _ w).alloc (Nat.le_refl _) _).alloc (by simp) _
  have cE := eqIl_same _ _ kids _ (hV.later HB.out) (hU.later HB.out) hl
  clear hV hU
  go_enter Try.func54, Try.ntmps54
  go_wp2_with fail
  refine cE.mono ?_
  rintro e w1 ⟨rfl, hb1⟩
  have HB1 : Hid (Below w.heap.size w w1) := HB.out.trans (hb1.mono HB.out.size)
  clear hb1 cE
  go_wp2_with fail
  go_ret
  exact ⟨rfl, HB1.out⟩
set_option maxHeartbeats 8000000 in
theorem eqNs_same (w : World) (v u : Value) (ns : List Nd) (hV : NlAt w v ns) (hU : NlAt w u ns) (hl : ns.length ≤ 1048576) (hkk : ∀ n ∈ ns, n.kids.length ≤ 1048576) :
    Calls Try.prog 31 #[v, u] w fun e w' => e = .returned (.bool true) ∧ Below w.heap.size w w' := by
  obtain ⟨a, c, rfl⟩ := hV.sl
  obtain ⟨a', c', rfl⟩ := hU.sl
  have HV : Hid (NlAt w (.slice a ns.length c) ns) := hV
  have HU : Hid (NlAt w (.slice a' ns.length c') ns) := hU
  have HK : Hid (∀ n ∈ ns, n.kids.length ≤ 1048576) := hkk
  have hl' : (ns.length : Int) ≤ 1048576 := by omega
  clear hV hU hkk
  go_enter Try.func31, Try.ntmps31
  go_wp2_with fail
  go_loopw [5] (fun i wr => ∃ k : Nat, k ≤ ns.length ∧ i = .int .i64 k ∧ Hid (Below w.heap.size w wr)) (fun i _ => ns.length - (intOf i).toNat)
  case atStart => exact ⟨0, Nat.zero_le _, rfl, Below.refl _ _⟩
  case round =>
    obtain ⟨k, hk, rfl, HB⟩ := hrel
    by_cases hlt : k < ns.length
    · obtain ⟨n, hx⟩ : ∃ h, ns[k]? = some h := ⟨_, List.getElem?_eq_getElem hlt⟩
      have hkn := HK.out n (List.mem_of_getElem? hx)
      obtain ⟨b, off, kv, rfl, hbl, hN⟩ := (HV.out.later HB.out).at hx
      obtain ⟨b', off', kv', rfl, hbl', hN'⟩ := (HU.out.later HB.out).at hx
      have c1 : ∀ m : Bw wr, NdAt m.val b (off + k * 4) n kv := fun m => hN.later hbl m.ok
      have c2 : ∀ m : Bw wr, NdAt m.val b' (off' + k * 4) n kv' := fun m => hN'.later hbl' m.ok
      have d0 := fun m => (c1 m).c0
      have d1 := fun m => (c1 m).c1
      have d2 := fun m => (c1 m).c2
      have d3 := fun m => (c1 m).c3
      have g0 := fun m => (c2 m).c0
      have g1 := fun m => (c2 m).c1
      have g2 := fun m => (c2 m).c2
      have g3 := fun m => (c2 m).c3
      have hE := Bw.calls (w := wr) (fun w' hb' => eqNd_same n kv kv' w' (hN.kids.later hb') (hN'.kids.later hb') hkn)
      have hne := Bw.some wr
      have hlt' : (k : Int) < (ns.length : Int) := by omega
      clear hx c1 c2 hN hN' hbl hbl' hkn
      obtain ⟨kind, tag, text, kids⟩ := n
      go_wp2_with fail
      refine wp_region_bw (w0 := wr) (by kernel_rfl) (by kernel_rfl) (Below.refl _ _) ?_
      repeat (go_big_quiet_step ((go_at_call 54; exact hE _)))
      refine wpQuiet_nil ?_
      rintro _ ⟨m, rfl⟩
      have hB1 : Hid (Below w.heap.size w m.val) := HB.out.trans (m.ok.mono HB.out.size)
      generalize m.val = w1 at *
      clear HB hE d0 d1 d2 d3 g0 g1 g2 g3 hne
      try simp [Act.put]
      go_wp2_with fail
      go_roundw
      case rel => exact ⟨k + 1, hlt, by go_num, hB1⟩
      case measure => simp [intOf]; omega
    · have hge : ¬ (k : Int) < (ns.length : Int) := by omega
      go_wp2_with fail
      go_ret
      exact ⟨rfl, HB.out⟩
set_option maxHeartbeats 4000000 in
theorem eqG_same (g : Gr) (nv rv nv' rv' : Value) (w : World) (hV : GrAt w nv rv g) (hU : GrAt w nv' rv' g) (ht : g.tot ≤ 1048576) :
    Calls Try.prog 9 #[.agg #[nv, rv], .agg #[nv', rv']] w fun e w' => e = .returned (.bool true) ∧ Below w.heap.size w w' := by
  obtain ⟨nodes, roots⟩ := g
  have htt : nodes.length + totN nodes + roots.length ≤ 1048576 := ht
  have HK : Hid (∀ n ∈ nodes, n.kids.length ≤ 1048576) := fun n hn => by
    have := totN_mem hn
    unfold Nd.tot at this
    omega
  have HT : Hid (nodes.length ≤ 1048576 ∧ roots.length ≤ 1048576) := ⟨by omega, by omega⟩
  obtain ⟨na, nc, rfl⟩ := hV.1.sl
  obtain ⟨ra, rc, rfl⟩ := hV.2.sl
  obtain ⟨na', nc', rfl⟩ := hU.1.sl
  obtain ⟨ra', rc', rfl⟩ := hU.2.sl
  obtain ⟨V, hW⟩ : ∃ V, (w.alloc (.cells #[.slice na nodes.length nc, .slice ra roots.length rc] 27)).alloc (.cells #[.slice na' nodes.length nc', .slice ra' roots.length rc'] 27) = V := ⟨_, rfl⟩
  have HB0 : Hid (Below w.heap.size w V) := by show Below _ _ _; rw [← hW]; exact ((Below.refl _ w).alloc (Nat.le_refl _) _).alloc (by simp) _
  have H0 : V.heap[w.heap.size]? = some (.cells #[.slice na nodes.length nc, .slice ra roots.length rc] 27 (0, 0)) := by
    rw [← hW]
    show ((w.heap.push _).push _)[w.heap.size]? = _
    rw [Array.getElem?_push, if_neg (by simp), Array.getElem?_push, if_pos rfl]
  have H1 : V.heap[w.heap.size + 1]? = some (.cells #[.slice na' nodes.length nc', .slice ra' roots.length rc'] 27 (0, 0)) := by
    rw [← hW]
    show ((w.heap.push _).push _)[w.heap.size + 1]? = _
    rw [Array.getElem?_push, if_pos (by simp)]
  have HS : Hid (V.heap.size = w.heap.size + 2) := by show _ = _; rw [← hW]; show ((w.heap.push _).push _).size = _; simp
  have HE0 : Hid (V.heap[w.heap.size]? = some (.cells #[.slice na nodes.length nc, .slice ra roots.length rc] 27 (0, 0))) := H0
  have HE1 : Hid (V.heap[w.heap.size + 1]? = some (.cells #[.slice na' nodes.length nc', .slice ra' roots.length rc'] 27 (0, 0))) := H1
  have cN := eqNs_same V _ _ nodes (hV.1.later HB0.out) (hU.1.later HB0.out) HT.out.1 HK.out
  have HR : Hid (IlAt V (.slice ra roots.length rc) roots ∧ IlAt V (.slice ra' roots.length rc') roots) := ⟨hV.2.later HB0.out, hU.2.later HB0.out⟩
  have HW : Hid ((w.alloc (.cells #[.slice na nodes.length nc, .slice ra roots.length rc] 27)).alloc (.cells #[.slice na' nodes.length nc', .slice ra' roots.length rc'] 27) = V) := hW
  clear hW hV hU ht htt H0 H1
  go_enter Try.func9, Try.ntmps9
  go_wp2_with fail
  rw [HW.out]
  refine cN.mono ?_
  rintro e w1 ⟨rfl, hb1⟩
  have HB1 : Hid (Below w.heap.size w w1) := HB0.out.trans (hb1.mono HB0.out.size)
  have a1 : w1.cell? ⟨w.heap.size, 1, none⟩ = some (.slice ra roots.length rc) := n2_1 ((hb1.block _ (by rw [HS.out]; omega)).trans HE0.out)
  have b1 : w1.cell? ⟨w.heap.size + 1, 1, none⟩ = some (.slice ra' roots.length rc') := n2_1 ((hb1.block _ (by rw [HS.out]; omega)).trans HE1.out)
  have cR := eqIl_same _ _ roots w1 (HR.out.1.later hb1) (HR.out.2.later hb1) HT.out.2
  clear hb1 cN HW HE0 HE1
  go_wp2_with fail
  refine cR.mono ?_
  rintro e w2 ⟨rfl, hb2⟩
  have HB2 : Hid (Below w.heap.size w w2) := HB1.out.trans (hb2.mono HB1.out.size)
  clear hb2 cR a1 b1
  go_wp2_with fail
  go_ret
  exact ⟨rfl, HB2.out⟩
end Go.Proofs.Ytkdlakcmhdiojaa
/- When a node of a graph is right by itself: plain, and spec.l15Node. -/
namespace Go.Proofs.Ytkdlakcmhdiojaa
open Go.ChangeShapes Go.WideShapes Go.ChangeAt Go.RowKit Go.Deep
def headBad (n : Nd) : Bool := decide (120 < n.tag.size) || (decide (n.kind < 3) || (decide (5 < n.kind) || ((decide (n.kind = 4) && decide (n.kids.length % 2 = 1)) || ((decide (n.kind = 5) && decide (0 < n.kids.length)) || (decide (n.kind ≠ 5) && !n.text.toList.isEmpty)))))
def kidsIn (most : Nat) (l : List Int) : Bool := l.all fun k => decide (0 ≤ k ∧ k < (most : Int))
def nodeOkG (n : Nd) (most : Nat) : Bool := !headBad n && kidsIn most n.kids
theorem kids_no {most : Nat} {l : List Int} {k : Nat} {x : Int} (h : l[k]? = some x) (hx : ¬ (0 ≤ x ∧ x < (most : Int))) : kidsIn most l = false := by
  unfold kidsIn
  rw [Bool.eq_false_iff]
  intro ha
  rw [List.all_eq_true] at ha
  have := ha x (List.mem_of_getElem? h)
  exact hx (of_decide_eq_true this)
theorem kids_yes {most : Nat} {l : List Int} (h : ∀ (k : Nat) (x : Int), l[k]? = some x → 0 ≤ x ∧ x < (most : Int)) : kidsIn most l = true := by
  unfold kidsIn
  rw [List.all_eq_true]
  intro x hx
  obtain ⟨k, hk⟩ := List.mem_iff_getElem?.1 hx
  exact decide_eq_true (h k x hk)
end Go.Proofs.Ytkdlakcmhdiojaa
/- Going through a graph: plain, and spec.l15Go. -/
namespace Go.Proofs.Ytkdlakcmhdiojaa
open Go.ChangeShapes Go.WideShapes Go.ChangeAt Go.RowKit Go.Deep
/-- What is known on the way: which nodes were met, how many, and whether one was met badly. -/
structure Ws where
  seen : List Int
  next : Int
  bad : Bool
def kidsOf (g : Gr) (i : Nat) : List Int := match g.nodes[i]? with | some n => n.kids | none => []
/-- A node is met; f is more than the nodes that weren't. -/
def goW (g : Gr) : Nat → Nat → Ws → Ws
  | 0, _, st => st
  | f + 1, i, st =>
    if st.bad = true ∨ st.seen.getD i 0 = 1 ∨ (st.seen.getD i 0 = 0 ∧ (i : Int) ≠ st.next) ∨ st.seen.getD i 0 = 3 then { st with bad := true }
    else if st.seen.getD i 0 = 2 then st
    else
      let st2 := (kidsOf g i).foldl (fun t k => goW g f k.toNat t) { st with seen := st.seen.set i 1, next := st.next + 1 }
      { st2 with seen := st2.seen.set i 2 }
def zeros (l : List Int) : Nat := l.countP fun x => x == 0
theorem zeros_set {l : List Int} {i : Nat} {v : Int} (hv : v ≠ 0) : zeros (l.set i v) ≤ zeros l := by
  unfold zeros
  induction l generalizing i with
  | nil => simp
  | cons x t ih =>
    cases i with
    | zero =>
      have h0 : (v == 0) = false := by rw [beq_eq_false_iff_ne]; exact hv
      simp only [List.set_cons_zero, List.countP_cons, h0]
      simp
    | succ i =>
      have := ih (i := i)
      simp only [List.set_cons_succ, List.countP_cons]
      omega
theorem zeros_met {l : List Int} {i : Nat} {v : Int} (hv : v ≠ 0) (hi : l[i]? = some 0) : zeros (l.set i v) + 1 = zeros l := by
  unfold zeros
  induction l generalizing i with
  | nil => simp at hi
  | cons x t ih =>
    cases i with
    | zero =>
      obtain rfl : x = 0 := by simpa using hi
      have h0 : (v == 0) = false := by rw [beq_eq_false_iff_ne]; exact hv
      simp [h0]
    | succ i =>
      have := ih (i := i) (by simpa using hi)
      simp only [List.set_cons_succ, List.countP_cons]
      omega
theorem goW_keep (g : Gr) : ∀ (f i : Nat) (st : Ws), (goW g f i st).seen.length = st.seen.length ∧ zeros (goW g f i st).seen ≤ zeros st.seen
  | 0, i, st => ⟨rfl, Nat.le_refl _⟩
  | f + 1, i, st => by
    rw [goW]
    split
    · exact ⟨rfl, Nat.le_refl _⟩
    · split
      · exact ⟨rfl, Nat.le_refl _⟩
      · have fold : ∀ (l : List Int) (t : Ws), (l.foldl (fun t k => goW g f k.toNat t) t).seen.length = t.seen.length ∧ zeros (l.foldl (fun t k => goW g f k.toNat t) t).seen ≤ zeros t.seen := by
          intro l
          induction l with
          | nil => exact fun t => ⟨rfl, Nat.le_refl _⟩
          | cons k l ih =>
            intro t
            have h1 := goW_keep g f k.toNat t
            have h2 := ih (goW g f k.toNat t)
            exact ⟨h2.1.trans h1.1, Nat.le_trans h2.2 h1.2⟩
        have h := fold (kidsOf g i) { st with seen := st.seen.set i 1, next := st.next + 1 }
        refine ⟨?_, ?_⟩
        · show (List.set _ i 2).length = _
          rw [List.length_set, h.1]
          exact List.length_set
        · refine Nat.le_trans (zeros_set (by decide)) (Nat.le_trans h.2 (zeros_set (by decide)))
section
variable {w0 w : World} {B S c : Nat} {nv rv : Value} {st : Ws}
end
/-- What holds on the way. -/
structure WInv (g : Gr) (st : Ws) : Prop where
  len : st.seen.length = g.nodes.length
  ok : ∀ x ∈ st.seen, 0 ≤ x ∧ x ≤ 3
  nx0 : 0 ≤ st.next
  nx : st.next + (zeros st.seen : Int) ≤ 1048576
theorem ok_set {l : List Int} {i : Nat} {v : Int} (h : ∀ x ∈ l, 0 ≤ x ∧ x ≤ 3) (hv : 0 ≤ v ∧ v ≤ 3) : ∀ x ∈ l.set i v, 0 ≤ x ∧ x ≤ 3 := fun x hx => by
  rcases List.mem_or_eq_of_mem_set hx with h1 | rfl
  · exact h x h1
  · exact hv
/-- A node that is neither met badly nor ended wasn't met, and is the next one. -/
theorem met_new {g : Gr} {st : Ws} {i : Nat} (hI : WInv g st) (hi : i < g.nodes.length) (h1 : ¬ (st.bad = true ∨ st.seen.getD i 0 = 1 ∨ (st.seen.getD i 0 = 0 ∧ (i : Int) ≠ st.next) ∨ st.seen.getD i 0 = 3)) (h2 : ¬ st.seen.getD i 0 = 2) : st.bad = false ∧ st.seen[i]? = some 0 ∧ (i : Int) = st.next := by
  have hl : i < st.seen.length := by rw [hI.len]; exact hi
  have hg : st.seen[i]? = some st.seen[i] := List.getElem?_eq_getElem hl
  have hd : st.seen.getD i 0 = st.seen[i] := by simp [List.getD, hg]
  have hr := hI.ok _ (List.getElem_mem hl)
  rw [hd] at h1 h2
  have h0 : st.seen[i] = 0 := by
    have a : st.seen[i] ≠ 1 := fun h => h1 (.inr (.inl h))
    have b : st.seen[i] ≠ 3 := fun h => h1 (.inr (.inr (.inr h)))
    omega
  refine ⟨?_, by rw [hg, h0], ?_⟩
  · cases hb : st.bad with
    | false => rfl
    | true => exact absurd (.inl hb) h1
  · rcases Int.decEq (i : Int) st.next with h | h
    · exact absurd (.inr (.inr (.inl ⟨h0, h⟩))) h1
    · exact h
theorem inv_enter {g : Gr} {st : Ws} {i : Nat} (hI : WInv g st) (h0 : st.seen[i]? = some 0) : WInv g { st with seen := st.seen.set i 1, next := st.next + 1 } ∧ zeros (st.seen.set i 1) + 1 = zeros st.seen := by
  have hz := zeros_met (v := 1) (by decide) h0
  refine ⟨⟨?_, ok_set hI.ok (by decide), ?_, ?_⟩, hz⟩
  · show (st.seen.set i 1).length = _
    rw [List.length_set]
    exact hI.len
  · show 0 ≤ st.next + 1
    have := hI.nx0
    omega
  · show st.next + 1 + (zeros (st.seen.set i 1) : Int) ≤ 1048576
    have := hI.nx
    omega
theorem inv_leave {g : Gr} {st : Ws} {i : Nat} {v : Int} (hv : 0 < v ∧ v ≤ 3) (hI : WInv g st) : WInv g { st with seen := st.seen.set i v } := by
  refine ⟨?_, ok_set hI.ok ⟨by omega, hv.2⟩, hI.nx0, ?_⟩
  · show (st.seen.set i v).length = _
    rw [List.length_set]
    exact hI.len
  · show st.next + (zeros (st.seen.set i v) : Int) ≤ 1048576
    have := zeros_set (l := st.seen) (i := i) (v := v) (by omega)
    have := hI.nx
    omega
theorem goW_inv (g : Gr) (hk : ∀ i, ∀ k ∈ kidsOf g i, 0 ≤ k ∧ k < (g.nodes.length : Int)) : ∀ (f i : Nat) (st : Ws), i < g.nodes.length → WInv g st → WInv g (goW g f i st)
  | 0, i, st, _, h => h
  | f + 1, i, st, hi, h => by
    rw [goW]
    split
    · exact ⟨h.len, h.ok, h.nx0, h.nx⟩
    · split
      · exact h
      · rename_i h1 h2
        obtain ⟨_, h0, _⟩ := met_new h hi h1 h2
        have fold : ∀ (l : List Int) (t : Ws), (∀ k ∈ l, 0 ≤ k ∧ k < (g.nodes.length : Int)) → WInv g t → WInv g (l.foldl (fun t k => goW g f k.toNat t) t) := by
          intro l
          induction l with
          | nil => exact fun t _ ht => ht
          | cons k l ih =>
            intro t hl ht
            have hk0 := hl k (List.mem_cons_self ..)
            exact ih _ (fun x hx => hl x (List.mem_cons_of_mem _ hx)) (goW_inv g hk f k.toNat t (by omega) ht)
        exact inv_leave (by decide) (fold (kidsOf g i) _ (hk i) (inv_enter h h0).1)
end Go.Proofs.Ytkdlakcmhdiojaa
/- spec.l15Go goes through a graph as the plain function does. -/
namespace Go.Proofs.Ytkdlakcmhdiojaa
open Go.ChangeShapes Go.WideShapes Go.ChangeAt Go.RowKit Go.Deep
theorem kids_at {g : Gr} {i : Nat} {n : Nd} (h : g.nodes[i]? = some n) : kidsOf g i = n.kids := by unfold kidsOf; rw [h]
theorem goW_bad {g : Gr} {f i : Nat} {st : Ws} (h : st.bad = true ∨ st.seen.getD i 0 = 1 ∨ (st.seen.getD i 0 = 0 ∧ (i : Int) ≠ st.next) ∨ st.seen.getD i 0 = 3) : goW g (f + 1) i st = { st with bad := true } := by rw [goW, if_pos h]
theorem goW_met {g : Gr} {f i : Nat} {st : Ws} (h1 : ¬ (st.bad = true ∨ st.seen.getD i 0 = 1 ∨ (st.seen.getD i 0 = 0 ∧ (i : Int) ≠ st.next) ∨ st.seen.getD i 0 = 3)) (h : st.seen.getD i 0 = 2) : goW g (f + 1) i st = st := by rw [goW, if_neg h1, if_pos h]
theorem goW_new {g : Gr} {f i : Nat} {st : Ws} (h1 : ¬ (st.bad = true ∨ st.seen.getD i 0 = 1 ∨ (st.seen.getD i 0 = 0 ∧ (i : Int) ≠ st.next) ∨ st.seen.getD i 0 = 3)) (h : ¬ st.seen.getD i 0 = 2) :
    goW g (f + 1) i st = { (kidsOf g i).foldl (fun t k => goW g f k.toNat t) { st with seen := st.seen.set i 1, next := st.next + 1 } with seen := ((kidsOf g i).foldl (fun t k => goW g f k.toNat t) { st with seen := st.seen.set i 1, next := st.next + 1 }).seen.set i 2 } := by rw [goW, if_neg h1, if_neg h]
theorem fold_take {g : Gr} {f : Nat} {l : List Int} {k : Nat} {x : Int} (h : l[k]? = some x) (st : Ws) : (l.take (k + 1)).foldl (fun t k => goW g f k.toNat t) st = goW g f x.toNat ((l.take k).foldl (fun t k => goW g f k.toNat t) st) := by
  rw [List.take_add_one, h, List.foldl_append]
  rfl
theorem fold_inv {g : Gr} (hk : ∀ i, ∀ k ∈ kidsOf g i, 0 ≤ k ∧ k < (g.nodes.length : Int)) (f : Nat) : ∀ (l : List Int) (t : Ws), (∀ k ∈ l, 0 ≤ k ∧ k < (g.nodes.length : Int)) → WInv g t → WInv g (l.foldl (fun t k => goW g f k.toNat t) t) ∧ zeros (l.foldl (fun t k => goW g f k.toNat t) t).seen ≤ zeros t.seen
  | [], t, _, h => ⟨h, Nat.le_refl _⟩
  | k :: l, t, hl, h => by
    have hk0 := hl k (List.mem_cons_self ..)
    have h1 := goW_inv g hk f k.toNat t (by omega) h
    have h2 := fold_inv hk f l _ (fun x hx => hl x (List.mem_cons_of_mem _ hx)) h1
    exact ⟨h2.1, Nat.le_trans h2.2 (goW_keep g f k.toNat t).2⟩
end Go.Proofs.Ytkdlakcmhdiojaa
/- When a graph is right: plain, and spec.GraphOk. -/
namespace Go.Proofs.Ytkdlakcmhdiojaa
open Go.ChangeShapes Go.WideShapes Go.ChangeAt Go.RowKit Go.Deep
/-- What was ended by an elder root is marked so. -/
def thrK : Nat → List Int → List Int
  | 0, l => l
  | k + 1, l => if (thrK k l).getD k 0 = 2 then (thrK k l).set k 3 else thrK k l
def endRoot (g : Gr) (f : Nat) (st : Ws) (r : Nat) : Ws := { goW g f r st with seen := thrK g.nodes.length (goW g f r st).seen }
def graphOkP (g : Gr) : Bool := decide (g.nodes.length ≤ 3000) && (g.nodes.all (fun n => nodeOkG n g.nodes.length) && (kidsIn g.nodes.length g.roots &&
  (let st := g.roots.foldl (fun t r => endRoot g (g.nodes.length + 1) t r.toNat) ⟨List.replicate g.nodes.length 0, 0, false⟩
   !st.bad && decide (st.next = (g.nodes.length : Int)))))
theorem thrK_len (k : Nat) (l : List Int) : (thrK k l).length = l.length := by
  induction k with
  | zero => rfl
  | succ k ih =>
    rw [thrK]
    split
    · rw [List.length_set]; exact ih
    · exact ih
theorem thrK_inv {g : Gr} {st : Ws} (h : WInv g st) (k : Nat) : WInv g { st with seen := thrK k st.seen } := by
  induction k with
  | zero => exact h
  | succ k ih =>
    rw [thrK]
    split
    · have := inv_leave (i := k) (v := 3) (by decide) ih
      exact this
    · exact ih
theorem endRoot_inv {g : Gr} (hk : ∀ i, ∀ k ∈ kidsOf g i, 0 ≤ k ∧ k < (g.nodes.length : Int)) {f : Nat} {st : Ws} {r : Nat} (hr : r < g.nodes.length) (h : WInv g st) : WInv g (endRoot g f st r) := thrK_inv (goW_inv g hk f r st hr h) _
theorem zeros_len (l : List Int) : zeros l ≤ l.length := List.countP_le_length
theorem roots_inv {g : Gr} (hk : ∀ i, ∀ k ∈ kidsOf g i, 0 ≤ k ∧ k < (g.nodes.length : Int)) (f : Nat) : ∀ (l : List Int) (st : Ws), (∀ r ∈ l, 0 ≤ r ∧ r < (g.nodes.length : Int)) → WInv g st → WInv g (l.foldl (fun t r => endRoot g f t r.toNat) st)
  | [], _, _, h => h
  | r :: l, st, hl, h => by
    have h0 := hl r (List.mem_cons_self ..)
    exact roots_inv hk f l _ (fun x hx => hl x (List.mem_cons_of_mem _ hx)) (endRoot_inv hk (by omega) h)
theorem start_inv {g : Gr} (h : g.nodes.length ≤ 3000) : WInv g ⟨List.replicate g.nodes.length 0, 0, false⟩ := by
  refine ⟨by simp, fun x hx => ?_, Int.le_refl _, ?_⟩
  · obtain rfl := List.eq_of_mem_replicate hx
    decide
  · have := zeros_len (List.replicate g.nodes.length 0)
    simp only [List.length_replicate] at this
    show (0 : Int) + (zeros (List.replicate g.nodes.length 0) : Int) ≤ 1048576
    omega
theorem kids_in {g : Gr} (h : g.nodes.all (fun n => nodeOkG n g.nodes.length) = true) : ∀ i, ∀ k ∈ kidsOf g i, 0 ≤ k ∧ k < (g.nodes.length : Int) := by
  intro i k hk
  unfold kidsOf at hk
  cases e : g.nodes[i]? with
  | none => rw [e] at hk; cases hk
  | some n =>
    rw [e] at hk
    rw [List.all_eq_true] at h
    have h1 := h n (List.mem_of_getElem? e)
    unfold nodeOkG at h1
    rw [Bool.and_eq_true] at h1
    have h2 := h1.2
    unfold kidsIn at h2
    rw [List.all_eq_true] at h2
    exact of_decide_eq_true (h2 k hk)
theorem ok_many {g : Gr} (h : 3000 < g.nodes.length) : graphOkP g = false := by unfold graphOkP; simp [show ¬ g.nodes.length ≤ 3000 by omega]
theorem ok_node {g : Gr} {k : Nat} {n : Nd} (hx : g.nodes[k]? = some n) (h : nodeOkG n g.nodes.length = false) : graphOkP g = false := by
  have : g.nodes.all (fun n => nodeOkG n g.nodes.length) = false := by
    rw [Bool.eq_false_iff]
    intro ha
    rw [List.all_eq_true] at ha
    rw [ha n (List.mem_of_getElem? hx)] at h
    cases h
  unfold graphOkP
  rw [this]
  simp
theorem ok_root {g : Gr} {k : Nat} {x : Int} (hx : g.roots[k]? = some x) (h : ¬ (0 ≤ x ∧ x < (g.nodes.length : Int))) : graphOkP g = false := by
  unfold graphOkP
  rw [kids_no hx h]
  simp
theorem ok_end {g : Gr} (h1 : g.nodes.length ≤ 3000) (h2 : g.nodes.all (fun n => nodeOkG n g.nodes.length) = true) (h3 : kidsIn g.nodes.length g.roots = true) {st : Ws} (h : g.roots.foldl (fun t r => endRoot g (g.nodes.length + 1) t r.toNat) ⟨List.replicate g.nodes.length 0, 0, false⟩ = st) : graphOkP g = (!st.bad && decide (st.next = (g.nodes.length : Int))) := by
  unfold graphOkP
  rw [h2, h3, h]
  simp [h1]
theorem roots_take {g : Gr} {f : Nat} {l : List Int} {k : Nat} {x : Int} (h : l[k]? = some x) (st : Ws) : (l.take (k + 1)).foldl (fun t r => endRoot g f t r.toNat) st = endRoot g f ((l.take k).foldl (fun t r => endRoot g f t r.toNat) st) x.toNat := by
  rw [List.take_add_one, h, List.foldl_append]
  rfl
theorem made_ints (N : Nat) : (madeCells #[.int .i64 0] N).toList = ilV (List.replicate N 0) := by
  apply List.ext_getElem
  · simp [size_madeCells, ilV]
  · intro i h1 h2
    simp [madeCells, ilV, Nat.mod_one]
end Go.Proofs.Ytkdlakcmhdiojaa
