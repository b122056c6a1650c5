/- The draws of bytes and of a number: spec's l01Bytes, MakeBytes and MakeNum. -/
import Derived.Test.YtlfamgdmmenonaaDoorDwn
import Derived.Test.YtlfamgdmmenonaaDoorDbi
import Derived.Deep.Light
namespace Go.Proofs.YtlfamgdmmenonaaDoor
open Go.Maps Go.RowKit
theorem Bs.mono {B B' : Nat} {a : Option Addr} {len : Nat} {w : World} (h : Bs B a len w) (hB : B ≤ B') : Bs B' a len w := by
  refine ⟨h.1, fun hl => ?_⟩
  obtain ⟨b, off, ha, hlt, hc⟩ := h.2 hl
  exact ⟨b, off, ha, by omega, hc⟩
/-- How far the bytes are drawn: a cursor, and a row of its own behind the blocks of w1. -/
structure By (P : Nat) (w1 wr : World) (v : Value) (acc : List Int) : Prop where
  cu : Cu P wr
  fr : Fr P w1 wr
  row : wr.ownsRow w1.heap.size 5 1 v acc.length (u8s acc)
  ok : okz acc
theorem By.read {P : Nat} {w1 wr w2 : World} {v : Value} {acc : List Int} (h : By P w1 wr v acc) (hP : P < w1.heap.size) (hS : St P wr w2) : By P w1 w2 v acc :=
  ⟨hS.1, h.fr.trans hS.2, row_block h.row (fun k hk hk2 => hS.2.block k hk2 (by omega)), h.ok⟩
theorem By.more {P : Nat} {w1 w : World} {rv : Value} {acc : List Int} {x : Int} (h : By P w1 w rv acc) (hP : P < w1.heap.size) (hl : acc.length ≤ 100000) (hx : 0 ≤ x ∧ x < 256) (ty : TypeId) :
    ∃ v2 w2, (Builtin.append_ #[22, 22] ty #[rv, .slice (some ⟨w.heap.size, 0, none⟩) 1 1]).run Tryd.prog (w.alloc (.cells #[.int .u8 x] 5)) = .ok v2 w2 ∧ isSl v2 ∧ By P w1 w2 v2 (acc ++ [x]) := by
  obtain ⟨ti, hti, hz0, hz1, hz2⟩ := info_parts info5
  have hsz1 : w1.heap.size ≤ w.heap.size := h.fr.1.size
  obtain ⟨v2, w2, hr2, ho2, hg2, hnil, hl2⟩ := run_append_own_at (P := Tryd.prog) (w.alloc (.cells #[.int .u8 x] 5)) w1.heap.size 22 ty 5 ti _ 1 1 Tryd.underlying22 hti hz0 hz1 hz2 rfl (by decide) rv acc.length _ (h.row.alloc _) ⟨w.heap.size, 0, none⟩ 1 1 [.int .u8 x] rfl
    (World.news_of_block (cs := #[.int .u8 x]) (t := 5) (fr := (0, 0)) (heap_alloc_new w _)) (by intro u hu; simp at hu; subst hu; rfl) (by unfold maxLen; omega) (by omega) (by simp; omega)
  have hsl : isSl v2 := by
    rcases ho2.2 with ⟨e, _⟩ | ⟨g, cap, cur, e, _⟩
    · exact ⟨_, _, _, e⟩
    · exact ⟨_, _, _, e⟩
  have hsz : w.heap.size ≤ w2.heap.size := by have := hg2.size; simp at this; omega
  have hblk : ∀ b, b < w.heap.size → rv.ownBlock ≠ some b → w2.heap[b]? = w.heap[b]? := fun b hb hne => (hg2.block b (by simp; omega) (fun e => hne e.symm)).trans (Below.heap_alloc w _ b hb)
  have hlo : ∀ b, rv.ownBlock = some b → w1.heap.size ≤ b := fun b hb => (h.row.lt b hb).1
  have hbel : Below w1.heap.size w w2 := ⟨hg2.os, hg2.tape, hg2.output, hsz, fun b hb => hblk b (by omega) (fun e => by have := hlo b e; omega)⟩
  refine ⟨v2, w2, hr2, hsl, ⟨?_, ⟨h.fr.1.trans (hbel.mono (by omega)), fun b hb1 hb2 => (hbel.block b hb2).trans (h.fr.2 b hb1 hb2)⟩, ?_, ?_⟩⟩
  · obtain ⟨a, len, cap, i, hh, hc, h0, h1, hb⟩ := h.cu
    exact ⟨a, len, cap, i, hh, (hbel.block P hP).trans hc, h0, h1, hb.later (hbel.mono (by omega))⟩
  · rw [List.length_append]
    have e : u8s (acc ++ [x]) = u8s acc ++ [.int .u8 x] := by simp [u8s]
    rw [e]
    exact ho2
  · intro z hz
    rcases List.mem_append.1 hz with hz | hz
    · exact h.ok z hz
    · obtain rfl : z = x := by simpa using hz
      exact hx
def BytesPost (P : Nat) (w : World) (e : Ending) (w' : World) : Prop :=
  ∃ v zs, e = .returned v ∧ isSl v ∧ zs.length ≤ 40 ∧ okz zs ∧ Sl w'.heap.size w' v zs ∧ Below P w w'
set_option maxRecDepth 100000 in
set_option maxHeartbeats 4000000 in
theorem bytes_any (P : Nat) (w : World) (hC : Cu P w) :
    Calls Tryd.prog 17 #[.pointer (some ⟨P, 0, none⟩), .int .i64 40] w (BytesPost P w) := by
  go_enter Tryd.func17, Tryd.ntmps17
  go_wp2_with fail
  refine (below_any P 41 w hC (by decide) (by decide)).mono ?_
  rintro e w1 ⟨n, rfl, hn0, hn1, hS1⟩
  have hP1 : P < w1.heap.size := hS1.1.lt
  have hB0 : Below P w w1 := hS1.2.1
  have HB0 : Hid (By P w1 (w1.alloc (.cells #[] 5)) (.slice (some ⟨w1.heap.size, 0, none⟩) 0 0) []) := by
    refine ⟨hS1.1.alloc _, (Fr.refl P w1).alloc hP1 _, World.ownsRow_made w1 #[] 0 (Nat.le_refl _) (by unfold maxLen; omega) rfl, fun z hz => by cases hz⟩
  clear hC hS1
  go_wp2_with fail
  go_loopw [6, 7] (fun ov iv wr => ∃ (k : Nat) (acc : List Int), (k : Int) ≤ n ∧ iv = .int .i64 k ∧ isSl ov ∧ Hid (acc.length = k) ∧ Hid (By P w1 wr ov acc)) (fun _ iv _ => (n - intOf iv).toNat)
  case atStart => exact ⟨0, [], by omega, rfl, ⟨_, _, _, rfl⟩, rfl, HB0⟩
  case round =>
    obtain ⟨k, acc, hk, rfl, ⟨o0, o1, o2, rfl⟩, HK, HB⟩ := hrel
    by_cases hlt : (k : Int) < n
    · go_wp2_with fail
      refine (byte_any P _ HB.out.cu).mono ?_
      rintro e w2 ⟨x, rfl, hx0, hx1, hS2⟩
      have hB2 := HB.out.read hP1 hS2
      obtain ⟨v4, w4, hrun, ⟨s0, s1, s2, rfl⟩, hB4⟩ := hB2.more (x := x) hP1 (by have := HK.out; omega) ⟨hx0, hx1⟩ 22
      have HB4 : Hid (By P w1 w4 (.slice s0 s1 s2) (acc ++ [x])) := hB4
      have HK4 : Hid ((acc ++ [x]).length = k + 1) := by show (acc ++ [x]).length = k + 1; rw [List.length_append, HK.out]; rfl
      clear hB2 hB4 hS2 HB
      go_wp2_with (at_builtin; refine wpList_append_run rfl _ _ 22 rfl _ _ rfl rfl _ w4 hrun ?_)
      go_roundw
      case rel =>
        go_light
        exact ⟨k + 1, acc ++ [x], by omega, by go_num, ⟨_, _, _, rfl⟩, HK4, HB4⟩
      case measure =>
        go_light
        simp [intOf]; omega
    · go_wp2_with fail
      go_ret
      have hB := HB.out
      exact ⟨_, acc, rfl, ⟨_, _, _, rfl⟩, by have := HK.out; omega, hB.ok, sl_of_own hB.row, hB0.trans hB.fr.1⟩
theorem makeBytes_any (a : Option Addr) (len cap : Nat) (w : World) (hb : Bs w.heap.size a len w) :
    Calls Tryd.prog 6 #[.slice a len cap] w (BytesPost w.heap.size w) := by
  go_enter Tryd.func6, Tryd.ntmps6
  go_wp2_with fail
  refine (newC_any a len cap w hb).mono ?_
  rintro e w1 ⟨rfl, hC, hB⟩
  go_wp2_with fail
  refine (bytes_any _ w1 hC).mono ?_
  rintro e w2 ⟨v, zs, rfl, ⟨v0, v1, v2, rfl⟩, hl, ho, hS, hB2⟩
  have HS : Hid (Sl w2.heap.size w2 (.slice v0 v1 v2) zs) := hS
  have HO : Hid (okz zs) := ho
  clear hS ho
  go_wp2_with fail
  go_ret
  exact ⟨_, zs, rfl, ⟨_, _, _, rfl⟩, hl, HO.out, HS.out, hB.trans hB2⟩
theorem Cu.set2 {P : Nat} {w : World} (h : Cu P w) : ∃ z : Int, w.cell? ⟨P, 2, none⟩ = some (.int .i64 z) ∧ w.frozen? ⟨P, 2, none⟩ = false ∧ ∀ v : Int, Cu P (w.setCell ⟨P, 2, none⟩ (.int .i64 v)) := by
  obtain ⟨a, len, cap, i, z, hc, h0, h1, hb⟩ := h
  obtain ⟨c0, c1, c2, f1, f2⟩ := cells3 hc
  refine ⟨z, c2, f2, fun v => ⟨a, len, cap, i, v, Go.Proofs.YtlfamgdmmenonaaDoor.set2 hc _, h0, h1, hb.later (((Fr.refl P w).set 2 _).1)⟩⟩
end Go.Proofs.YtlfamgdmmenonaaDoor
