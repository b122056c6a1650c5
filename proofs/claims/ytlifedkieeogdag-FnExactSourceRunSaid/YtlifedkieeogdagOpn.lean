/- A source that came in, opened; how large it is. -/
import Derived.Test.YtlifedkieeogdagFrm
import Derived.Deep.SlicePairs
import Derived.Lib.SmallJoins
import Derived.ProofKit
import Derived.OpenShut
namespace Go.Proofs.Ytlifedkieeogdag
open Go.Maps Go.RowKit Go.Deep Go.ChangeShapes Go.WideShapes Go.ChangeAt
section
variable {H : Type} {enc : TypeId × Value → H} {W : World} {sp : Nat → Bool} {hd : Bool}
theorem open_bytes {n : Nat} {V : Value} {y : DataW H × List MemPlace} (h : DataW.trod enc Try.prog W 0 sp hd n 37 [V] = some y) : ∃ zs, Sl W.heap.size W V zs ∧ okz zs ∧ zs.length ≤ 9223372036854775807 := by
  rcases open_ints Try.underlying37 Try.underlying5 (by kernel_rfl) h with ⟨hcs, _⟩ | ⟨x, l, c, zs, hcs, _, hl, hm, hz, _, hcell, hwz⟩
  · obtain rfl : V = .slice none 0 0 := by simpa using hcs
    exact ⟨[], .inl ⟨rfl, _, _, rfl⟩, fun z hz => (by cases hz), by simp⟩
  · obtain rfl : V = .slice (some x) l c := by simpa using hcs
    have hlz : l ≤ zs.length := by rw [hz]; split <;> omega
    refine ⟨zs.take l, ?_, fun z hz => ?_, by rw [List.length_take]; simp only [maxLen] at hm; omega⟩
    · have hzl : (zs.take l).length = l := by rw [List.length_take]; omega
      by_cases h00 : l = 0
      · subst h00
        exact .inl ⟨by simp, _, _, rfl⟩
      · obtain ⟨b, off, spot⟩ := x
        have hc0 := hcell 0 (by omega)
        have hspot : spot = none := by simpa [Addr.add] using World.cell?_spot hc0
        subst hspot
        have hlt := World.block_lt_of_cell? W _ hc0
        refine .inr ⟨fun e => by rw [e] at hzl; simp at hzl; omega, b, off, c, by rw [hzl], by simpa [Addr.add] using hlt, by omega, fun i hi => ?_⟩
        rw [hzl] at hi
        have := hcell i (by omega)
        have e2 : (zs.take l).getD i 0 = zs.getD i 0 := by simp [hi]
        rw [e2]
        by_cases e : i = 0
        · subst e; simpa [Addr.add] using this
        · simpa [Addr.add, e] using this
    · have := bounds_u8 (hwz z (List.mem_of_mem_take hz))
      omega
theorem open_pages {n : Nat} {V : Value} {y : DataW H × List MemPlace} (h : DataW.trod enc Try.prog W 0 sp hd n 22 [V] = some y) :
    ∃ ps qs, SlP W.heap.size W V ps ∧ PQ W.heap.size W ps qs ∧ okd qs ∧ (∀ p ∈ ps, (Lit.int .i64 p.1).wf = true) ∧ (∀ q ∈ qs, q.2.length ≤ 9223372036854775807) ∧ qs.length ≤ 9223372036854775807 := by
  rcases open_slice_pairs Try.underlying22 Try.underlying65 (by kernel_rfl) rfl rfl (by kernel_rfl) (by kernel_rfl) h with ⟨hcs, _⟩ | ⟨a, len, cap, m, n', V0, V1, D0, D1, P0, P1, hcs, _, hl, hm, hmm, _, hx⟩
  · obtain rfl : V = .slice none 0 0 := by simpa using hcs
    exact ⟨[], [], .inl ⟨rfl, _, _, rfl⟩, trivial, fun q hq => (by cases hq), fun p hp => (by cases hp), fun q hq => (by cases hq), by simp⟩
  · obtain rfl : V = .slice (some a) len cap := by simpa using hcs
    have hlm : len ≤ m := by rw [hmm]; split <;> omega
    have each : ∀ k, k ≤ len → ∃ ps qs, ps.length = k ∧ PQ W.heap.size W ps qs ∧ okd qs ∧ (∀ p ∈ ps, (Lit.int .i64 p.1).wf = true) ∧ (∀ q ∈ qs, q.2.length ≤ 9223372036854775807) ∧ ∀ i p, ps[i]? = some p → V0 i = .int .i64 p.1 ∧ V1 i = p.2 := by
      intro k
      induction k with
      | zero => exact fun _ => ⟨[], [], rfl, trivial, fun q hq => (by cases hq), fun p hp => (by cases hp), fun q hq => (by cases hq), fun i p hp => (by simp at hp)⟩
      | succ k ih =>
        intro hk
        obtain ⟨ps, qs, hpl, hpq, hod, hwf, hzl, hv⟩ := ih (by omega)
        obtain ⟨_, _, t0, t1⟩ := hx k (by omega)
        obtain ⟨x, hx0, _, hxw⟩ := DataW.trod_int Try.underlying3 t0
        have e0 : V0 k = .int .i64 x := by simpa using hx0
        obtain ⟨zs, hsl, hoz, hol⟩ := open_bytes t1
        refine ⟨ps ++ [(x, V1 k)], qs ++ [(x, zs)], by simp [hpl], hpq.snoc rfl hsl, ?_, ?_, ?_, ?_⟩
        · intro q hq
          rcases List.mem_append.1 hq with hq | hq
          · exact hod q hq
          · obtain rfl : q = (x, zs) := by simpa using hq
            exact hoz
        · intro p hp
          rcases List.mem_append.1 hp with hp | hp
          · exact hwf p hp
          · obtain rfl : p = (x, V1 k) := by simpa using hp
            exact hxw
        · intro q hq
          rcases List.mem_append.1 hq with hq | hq
          · exact hzl q hq
          · obtain rfl : q = (x, zs) := by simpa using hq
            exact hol
        · intro i p hp
          rcases Nat.lt_or_ge i ps.length with hi | hi
          · rw [List.getElem?_append_left hi] at hp
            exact hv i p hp
          · rw [List.getElem?_append_right hi] at hp
            have hi0 : i - ps.length = 0 := by
              rcases Nat.eq_zero_or_pos (i - ps.length) with h | h
              · exact h
              · rw [List.getElem?_eq_none (by simp; omega)] at hp; cases hp
            rw [hi0] at hp
            obtain rfl : (x, V1 k) = p := by simpa using hp
            have : i = k := by omega
            subst this
            exact ⟨e0, rfl⟩
    obtain ⟨ps, qs, hpl, hpq, hod, hwf, hzl, hv⟩ := each len (Nat.le_refl _)
    refine ⟨ps, qs, ?_, hpq, hod, hwf, hzl, by rw [← hpq.len, hpl]; simp only [maxLen] at hm; omega⟩
    by_cases h0 : ps = []
    · left
      rw [h0] at hpl
      have : len = 0 := by simpa using hpl.symm
      subst this
      exact ⟨h0, _, _, rfl⟩
    · right
      have hpos : 0 < ps.length := List.length_pos_iff.2 h0
      obtain ⟨b, off, spot⟩ := a
      have hc0 := (hx 0 (by omega)).1
      have hspot : spot = none := by simpa [Addr.add] using World.cell?_spot hc0
      subst hspot
      have hlt := World.block_lt_of_cell? W _ hc0
      have hadd : ∀ j, (⟨b, off, none⟩ : Addr).add j = ⟨b, off + j, none⟩ := by intro j; unfold Addr.add; split <;> simp_all
      refine ⟨h0, b, off, cap, by rw [hpl], by simpa [Addr.add] using hlt, by omega, fun i p hp => ?_⟩
      have hi : i < len := by
        rcases Nat.lt_or_ge i ps.length with h | h
        · omega
        · rw [List.getElem?_eq_none h] at hp; cases hp
      obtain ⟨c1, c2, _, _⟩ := hx i (by omega)
      obtain ⟨v0, v1⟩ := hv i p hp
      rw [hadd, v0] at c1
      rw [hadd, v1] at c2
      exact ⟨c1, by rw [Nat.add_assoc]; exact c2⟩
theorem open_src {r : Reach} {b0 : Nat} {v : Value} {d : DataW H} {p : List MemPlace} (hv : Value.okWide Try.prog W r b0 24 v) (h : DataW.Trod enc Try.prog W 0 sp hd 24 v d p) :
    ∃ size f v1 ps qs, v = .agg #[.int .i64 size, v1, .int .i64 f] ∧ (Lit.int .i64 size).wf = true ∧ (Lit.int .i64 f).wf = true ∧ SlP W.heap.size W v1 ps ∧ PQ W.heap.size W ps qs ∧ okd qs ∧ (∀ p ∈ ps, (Lit.int .i64 p.1).wf = true) ∧ (∀ q ∈ qs, q.2.length ≤ 9223372036854775807) ∧ qs.length ≤ 9223372036854775807 := by
  obtain ⟨v0, v1, v2, y0, y1, y2, n, rfl, _, _, t0, t1, t2⟩ := Joins.open_agg3 Try.underlying24 (by kernel_rfl) (by kernel_rfl) hv h
  obtain ⟨size, e0, _, w0⟩ := DataW.trod_int Try.underlying3 t0
  obtain ⟨f, e2, _, w2⟩ := DataW.trod_int Try.underlying3 t2
  obtain rfl : v0 = .int .i64 size := by simpa using e0
  obtain rfl : v2 = .int .i64 f := by simpa using e2
  obtain ⟨ps, qs, h1, h2, h3, h4, h5, h6⟩ := open_pages t1
  exact ⟨size, f, v1, ps, qs, rfl, w0, w2, h1, h2, h3, h4, h5, h6⟩
end
def tot : List Pg → Nat
  | [] => 0
  | q :: qs => q.2.length + 1 + tot qs
theorem tot_len : ∀ qs : List Pg, qs.length ≤ tot qs
  | [] => Nat.le_refl _
  | q :: qs => by
    have := tot_len qs
    simp only [List.length_cons, tot]
    omega
theorem tot_mem : ∀ {qs : List Pg} {q : Pg}, q ∈ qs → q.2.length ≤ tot qs
  | x :: qs, q, h => by
    rcases List.mem_cons.1 h with rfl | h
    · simp only [tot]; omega
    · have := tot_mem h
      simp only [tot]; omega
theorem tot_app : ∀ (qs qs' : List Pg), tot (qs ++ qs') = tot qs + tot qs'
  | [], qs' => by simp [tot]
  | q :: qs, qs' => by
    have := tot_app qs qs'
    simp only [List.cons_append, tot, this]
    omega
theorem tot_take_succ {qs : List Pg} {k : Nat} {q : Pg} (h : qs[k]? = some q) : tot (qs.take (k + 1)) = tot (qs.take k) + (q.2.length + 1) := by
  rw [List.take_add_one, h, tot_app]
  rfl
def less (l : Int) (n : Nat) : Int := if l - n < 0 then -1 else l - n
set_option maxHeartbeats 1000000 in
theorem szB_ (w : World) (a : Option Addr) (n c : Nat) (l : Int) (l0 : 0 ≤ l) (l1 : l ≤ 1048576) (hn : n ≤ 9223372036854775807) :
    Calls Try.prog 48 #[.slice a n c, .int .i64 l] w fun e w' => e = .returned (.int .i64 (less l n)) ∧ w' = w := by
  unfold less
  by_cases h : l - (n : Int) < 0
  · rw [if_pos h]
    have h' : l < (n : Int) := by omega
    go_enter Try.func48, Try.ntmps48
    go_wp2_with fail
    go_ret
    exact ⟨rfl, rfl⟩
  · rw [if_neg h]
    have h' : (n : Int) ≤ l := by omega
    go_enter Try.func48, Try.ntmps48
    go_wp2_with fail
    go_ret
    exact ⟨rfl, rfl⟩
set_option maxHeartbeats 1000000 in
theorem szP_ (w : World) (x : Int) (a : Option Addr) (n c : Nat) (l : Int) (l0 : 0 ≤ l) (l1 : l ≤ 1048576) (hn : n ≤ 9223372036854775807) :
    Calls Try.prog 42 #[.agg #[.int .i64 x, .slice a n c], .int .i64 l] w fun e w' => e = .returned (.int .i64 (less l n)) ∧ Below w.heap.size w w' := by
  have hs := fun w => szB_ w a n c l l0 l1 hn
  have hm : (less l n < 0 ∧ less l n = -1) ∨ ¬ less l n < 0 := by unfold less; split <;> omega
  generalize less l n = m at *
  rcases hm with ⟨hm, rfl⟩ | hm
  · go_enter Try.func42, Try.ntmps42
    go_wp2_with fail
    refine (hs _).mono ?_
    rintro e w1 ⟨rfl, rfl⟩
    go_wp2_with fail
    go_ret
    exact ⟨rfl, (Below.refl _ _).alloc (Nat.le_refl _) _⟩
  · go_enter Try.func42, Try.ntmps42
    go_wp2_with fail
    refine (hs _).mono ?_
    rintro e w1 ⟨rfl, rfl⟩
    go_wp2_with fail
    go_ret
    exact ⟨rfl, (Below.refl _ _).alloc (Nat.le_refl _) _⟩
def SzPost (qs : List Pg) (l : Int) (w : World) (e : Ending) (w' : World) : Prop :=
  (∃ r : Int, e = .returned (.int .i64 r) ∧ (r = -1 ∨ (0 ≤ r ∧ (tot qs : Int) ≤ l))) ∧ Below w.heap.size w w'
end Go.Proofs.Ytlifedkieeogdag
