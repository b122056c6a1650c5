/- As many zero elements as a number says come behind a row that the call owns: append of a slice that is made for it alone. -/
import Derived.Test.YthlainjkpeioeajPsh
import Derived.Laws.AppendOwn
import Derived.IntWalk
namespace Go.Proofs.Ythlainjkpeioeaj
open Go.RowKit
section
variable {P : Program} (w : World)
theorem wrapM (m : Nat) (hm : m ≤ 100000000) : IntKind.i64.wrap (m : Int) = (m : Int) := IntWalk.i64_in _ (by omega)
theorem room48 (m b : Nat) (hm : m ≤ 100000000) (hb : b ≤ 1000) : ¬ (281474976710656 < (m : Int) * (b : Int)) := by
  have : (m : Int) * (b : Int) ≤ 100000000 * 1000 := Int.mul_le_mul (by omega) (by omega) (by omega) (by omega)
  omega
theorem run_zeros_room (t tx ty e : TypeId) (i : TypeInfo) (z : Value) (ht : P.underlying t = some (.slice e)) (hx : P.underlying tx = some (.int .i64)) (hi : P.info? e = some i) (hz : i.zero = some z) (hs0 : 0 < i.size)
    (g sLen sCap : Nat) (cur : Array Value) (hg : w.heap[g]? = some (.cells cur e (0, 0))) (m : Nat) (hm0 : m ≠ 0) (hm : m ≤ 100000000) (hby : i.bytes ≤ 1000) (h1 : ∀ u ∈ (Builtin.zeroCells z.cells m).toList, u.oneCell' = true)
    (hroom : sLen + m ≤ sCap) (hfit : sLen * i.size + (Builtin.zeroCells z.cells m).toList.length ≤ cur.size) :
    (Builtin.append_ #[t, tx] ty #[.slice (some ⟨g, 0, none⟩) sLen sCap, .int .i64 (m : Int)]).run P w =
      .ok (.slice (some ⟨g, 0, none⟩) (sLen + m) sCap) (w.setRow g (cur.toList.take (sLen * i.size) ++ (Builtin.zeroCells z.cells m).toList ++ cur.toList.drop (sLen * i.size + (Builtin.zeroCells z.cells m).toList.length)).toArray) := by
  have hst := run_storeCells_at P g (sLen * i.size) e (Builtin.zeroCells z.cells m).toList 0 cur w hg (by simpa using hfit) h1
  simp only [Nat.add_zero] at hst
  have hwr := wrapM m hm
  have h2 : ¬ ((m : Int) < 0) := by omega
  have h3 := room48 m i.bytes hm hby
  have h4 : ¬ (m = 0 ∨ i.size = 0) := by omega
  have h5 : ¬ (m * i.size = 0) := by rw [Nat.mul_eq_zero]; exact h4
  simp [Builtin.append_, run_underlying ht, run_underlying hx, sizeOf, typeInfo, zeroValue, hi, hz, asInt, asIntOf, hwr, h2, h3, h5, hroom, Addr.add_lit, hst]
theorem run_zeros_none (t tx ty e : TypeId) (i : TypeInfo) (ht : P.underlying t = some (.slice e)) (hx : P.underlying tx = some (.int .i64)) (hi : P.info? e = some i) (a : Option Addr) (sLen sCap : Nat) (hle : sLen ≤ sCap) :
    (Builtin.append_ #[t, tx] ty #[.slice a sLen sCap, .int .i64 0]).run P w = .ok (.slice a sLen sCap) w := by
  have hwr : IntKind.i64.wrap 0 = 0 := IntWalk.i64_in _ (by omega)
  cases a with
  | none => simp [Builtin.append_, run_underlying ht, run_underlying hx, sizeOf, typeInfo, hi, asInt, asIntOf, hwr, hle]
  | some a => simp [Builtin.append_, run_underlying ht, run_underlying hx, sizeOf, typeInfo, hi, asInt, asIntOf, hwr, hle, storeCells]
theorem run_zeros_grow (t tx ty e : TypeId) (i : TypeInfo) (z : Value) (ht : P.underlying t = some (.slice e)) (hx : P.underlying tx = some (.int .i64)) (hi : P.info? e = some i) (hz : i.zero = some z) (hs0 : 0 < i.size)
    (base : Option Addr) (sLen sCap : Nat) (olds : List Value) (hold : (Builtin.firstCells i.size sLen (.slice base sLen sCap)).run P w.drew = .ok olds.toArray w.drew) (m : Nat) (hm0 : m ≠ 0) (hm : m ≤ 100000000) (hby : i.bytes ≤ 1000)
    (hg : sCap < sLen + m) (h63 : ((sLen + m : Nat) : Int) ≤ 9223372036854775807) (hfit : Builtin.nextslicecap (sLen + m) sCap * i.bytes ≤ 281474976710656) :
    (Builtin.append_ #[t, tx] ty #[.slice base sLen sCap, .int .i64 (m : Int)]).run P w =
      .ok (.slice (some ⟨w.heap.size, 0, none⟩) (sLen + m) (grownCap w (sLen + m) sCap e))
        (w.drew.alloc (.cells (olds.toArray ++ (Builtin.zeroCells z.cells m).toList.toArray ++ Builtin.zeroCells z.cells (grownCap w (sLen + m) sCap e - (sLen + m))) e)) := by
  have hn : ¬ (sLen + m ≤ sCap) := by omega
  have h63' : ¬ (9223372036854775807 < ((sLen : Int) + (m : Int))) := by omega
  have h48' : ¬ (281474976710656 < Builtin.nextslicecap (sLen + m) sCap * i.bytes) := by omega
  have hwr := wrapM m hm
  have h2 : ¬ ((m : Int) < 0) := by omega
  have h3 := room48 m i.bytes hm hby
  have h4 : ¬ (m = 0 ∨ i.size = 0) := by omega
  have h5 : ¬ (m * i.size = 0) := by rw [Nat.mul_eq_zero]; exact h4
  simp [Builtin.append_, run_underlying ht, run_underlying hx, sizeOf, typeInfo, zeroValue, hi, hz, asInt, asIntOf, hwr, h2, h3, h5, hn, h63', h48', Question.forced, hold, newRow, grownCap]
end
theorem zeros_own {P : Program} {ts tx e : TypeId} {z : Value} {sz bytes : Nat} (hu : P.underlying ts = some (.slice e)) (hx : P.underlying tx = some (.int .i64)) (hi : (P.info? e).map (fun i => (i.zero, i.size, i.bytes)) = some (some z, sz, bytes)) (hzs : z.cells.size = sz) (h0 : 0 < sz)
    (w : World) (lo : Nat) (v : Value) (n : Nat) (xs : List Value) (hown : w.ownsRow lo e sz v n xs) (m : Nat) (h1 : ∀ u ∈ (Builtin.zeroCells z.cells m).toList, u.oneCell' = true) (hn : n ≤ 100000000) (hm : m ≤ 100000000) (hb : bytes ≤ 1000) (hlo : lo ≤ w.heap.size) (ty : TypeId) :
    ∃ v' w', (Builtin.append_ #[ts, tx] ty #[v, .int .i64 (m : Int)]).run P w = .ok v' w' ∧ isSl' v' ∧ w'.ownsRow lo e sz v' (n + m) (xs ++ (Builtin.zeroCells z.cells m).toList) ∧ Below lo w w' ∧
      (∀ b, b < w.heap.size → v.ownBlock ≠ some b → w'.heap[b]? = w.heap[b]?) := by
  obtain ⟨i, hti, hz0, hz1, hz2⟩ := info_parts hi
  subst hz1
  subst hz2
  have hlo2 : ∀ b, v.ownBlock = some b → lo ≤ b := fun b hb => (hown.lt b hb).1
  have fin : ∀ (v' : Value) (w' : World), (Builtin.append_ #[ts, tx] ty #[v, .int .i64 (m : Int)]).run P w = .ok v' w' → isSl' v' → w'.ownsRow lo e i.size v' (n + m) (xs ++ (Builtin.zeroCells z.cells m).toList) → w.grownBy w' v.ownBlock →
      ∃ v' w', (Builtin.append_ #[ts, tx] ty #[v, .int .i64 (m : Int)]).run P w = .ok v' w' ∧ isSl' v' ∧ w'.ownsRow lo e i.size v' (n + m) (xs ++ (Builtin.zeroCells z.cells m).toList) ∧ Below lo w w' ∧
      (∀ b, b < w.heap.size → v.ownBlock ≠ some b → w'.heap[b]? = w.heap[b]?) := by
    intro v' w' a1 a2 a3 a4
    exact ⟨v', w', a1, a2, a3, ⟨a4.os, a4.tape, a4.output, a4.size, fun b hb => a4.block b (by omega) (fun e => by have := hlo2 b e.symm; omega)⟩, fun b hb hne => a4.block b hb (fun e => hne e.symm)⟩
  have hl : (Builtin.zeroCells z.cells m).toList.length = m * i.size := by rw [Array.length_toList, size_zeroCells, hzs]
  have hlen : (xs ++ (Builtin.zeroCells z.cells m).toList).length = (n + m) * i.size := by rw [List.length_append, hown.1, hl, Nat.add_mul]
  by_cases hm0 : m = 0
  · subst hm0
    have hc : (Builtin.zeroCells z.cells 0).toList = [] := List.eq_nil_of_length_eq_zero (by rw [hl]; omega)
    rw [hc, List.append_nil, Nat.add_zero] at fin ⊢
    rcases hown.2 with ⟨rfl, rfl⟩ | ⟨g, cap, cur, rfl, hbg, hg, hnc, hcm, hcs, htake⟩
    · exact fin _ _ (run_zeros_none w ts tx ty e i hu hx hti _ _ _ (Nat.le_refl _)) ⟨_, _, _, rfl⟩ hown ⟨rfl, rfl, rfl, Nat.le_refl _, fun _ _ _ => rfl⟩
    · exact fin _ _ (run_zeros_none w ts tx ty e i hu hx hti _ _ _ hnc) ⟨_, _, _, rfl⟩ hown ⟨rfl, rfl, rfl, Nat.le_refl _, fun _ _ _ => rfl⟩
  have hbytes : (n + m) * i.bytes ≤ 140737488355328 := by
    have : (n + m) * i.bytes ≤ 200000000 * 1000 := Nat.mul_le_mul (by omega) hb
    omega
  have h63 : n + m ≤ maxLen := by unfold maxLen; omega
  have grown : ∀ (old : Nat), old < n + m → ∀ (row : Option Nat),
      (w.drew.alloc (.cells (xs.toArray ++ (Builtin.zeroCells z.cells m).toList.toArray ++ Builtin.zeroCells z.cells (grownCap w (n + m) old e - (n + m))) e)).ownsRow lo e i.size
        (.slice (some ⟨w.heap.size, 0, none⟩) (n + m) (grownCap w (n + m) old e)) (n + m) (xs ++ (Builtin.zeroCells z.cells m).toList) ∧
      w.grownBy (w.drew.alloc (.cells (xs.toArray ++ (Builtin.zeroCells z.cells m).toList.toArray ++ Builtin.zeroCells z.cells (grownCap w (n + m) old e - (n + m))) e)) row := by
    intro old ho row
    have hge := grownCap_ge w (n + m) old e
    have hcm : grownCap w (n + m) old e ≤ maxLen := grownCap_le_maxLen w (n + m) old e h63
    refine ⟨⟨hlen, .inr ⟨w.heap.size, _, _, rfl, hlo, heap_alloc_new w.drew _, hge, hcm, ?_, ?_⟩⟩, ⟨rfl, rfl, rfl, by simp, fun k hk _ => Below.heap_alloc w.drew _ k hk⟩⟩
    · simp only [Array.size_append, List.size_toArray, size_zeroCells, hzs, hown.1, hl, ← Nat.add_mul]
      congr 1
      omega
    · simp only [Array.toList_append, List.append_assoc]
      rw [← List.append_assoc, ← hlen]
      exact List.take_left
  rcases hown.2 with ⟨rfl, rfl⟩ | ⟨g, cap, cur, rfl, hbg, hg, hnc, hcm, hcs, htake⟩
  · obtain rfl : xs = [] := List.eq_nil_of_length_eq_zero (by simpa using hown.1)
    have hgr := grown 0 (by omega) (Value.ownBlock (.slice none 0 0))
    refine fin _ _ (run_zeros_grow w ts tx ty e i z hu hx hti hz0 h0 none 0 0 [] (run_firstCells_none w.drew i.size 0 0 0) m hm0 hm hb (by omega) (by unfold maxLen at h63; omega) (by rw [Nat.zero_add] at hbytes ⊢; rw [nextslicecap_zero (by omega)]; omega)) ⟨_, _, _, rfl⟩ hgr.1 hgr.2
  · by_cases hroom : n + m ≤ cap
    · have hfit : n * i.size + (Builtin.zeroCells z.cells m).toList.length ≤ cur.size := by rw [hl, hcs, ← Nat.add_mul]; exact Nat.mul_le_mul_right _ hroom
      have hr := run_zeros_room (P := P) w ts tx ty e i z hu hx hti hz0 h0 g n cap cur hg m hm0 hm hb h1 hroom hfit
      refine fin _ _ hr ⟨_, _, _, rfl⟩ ⟨hlen, .inr ⟨g, cap, _, rfl, hbg, setRow_heap w g cur _ e _ hg, hroom, hcm, ?_, ?_⟩⟩ ⟨rfl, rfl, rfl, by simp, fun k _ hk => setRow_other w g k _ (fun e => hk (by simp [Value.ownBlock, e]))⟩
      · simp only [List.size_toArray, List.length_append, List.length_take, List.length_drop, Array.length_toList] at hfit hl ⊢
        omega
      · rw [htake, ← hlen]
        exact List.take_left
    · have holds : ∀ j u, xs[j]? = some u → w.cell? ((⟨g, 0, none⟩ : Addr).add j) = some u := hown.cells (g := g) rfl
      have hfo := run_firstCells_some (P := P) w.drew i.size n ⟨g, 0, none⟩ n cap xs hown.1 (by simpa using holds)
      have hgr := grown cap (by omega) (Value.ownBlock (.slice (some ⟨g, 0, none⟩) n cap))
      exact fin _ _ (run_zeros_grow w ts tx ty e i z hu hx hti hz0 h0 _ n cap xs hfo m hm0 hm hb (by omega) (by unfold maxLen at h63; omega) (growslice_fits (by omega) hbytes)) ⟨_, _, _, rfl⟩ hgr.1 hgr.2
end Go.Proofs.Ythlainjkpeioeaj
