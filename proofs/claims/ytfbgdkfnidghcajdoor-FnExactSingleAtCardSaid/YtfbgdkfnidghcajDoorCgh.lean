/- impl.caught: it lets a reader read, and tells the fault that it met; the deferred closure; the box of the answer. -/
import Derived.Test.YtfbgdkfnidghcajDoorRcv
import Derived.Test.YtfbgdkfnidghcajDoorProg
import Derived.WalkLawsBesides
import Derived.WalkSpells
import Derived.WalkMore
import Derived.Below
import Derived.Deep.RegionHeld3
import Derived.Laws.EntriesVeiled
import Derived.Lib.BufferOwn
namespace Go.Proofs.YtfbgdkfnidghcajDoor
open Go.RowKit
/-- The ending of a call that a fault ended. -/
def faultX (code at_ : Int) : Ending := .panicked [{ v := .iface 38 (.agg #[.int .i64 code, .int .i64 at_]), recovered := false }]
set_option maxHeartbeats 4000000 in
theorem catch_fault1 (a : Nat) (x0 x1 : Value) (code at_ : Int) (older : List PanicEntry) (w : World)
    (h0 : w.heap[a]? = some (.cells #[x0, x1] 38 (0, 0))) :
    CallsD Tryd.prog 25 #[.pointer (some ⟨a, 0, none⟩)] (.panicking ({ v := .iface 38 (.agg #[.int .i64 code, .int .i64 at_]), recovered := false } :: older)) w fun e u' w' =>
      e = .returned (.tuple #[]) ∧ u' = .panicking ({ v := .iface 38 (.agg #[.int .i64 code, .int .i64 at_]), recovered := true } :: older) ∧
      ∃ W, Below w.heap.size w W ∧ w' = ((W.setCell ⟨a, 0, none⟩ (.int .i64 code)).setCell ⟨a, 1, none⟩ (.int .i64 at_)) := by
  have hta := fun (w : World) (v : Value) => assert_struct (P := Tryd.prog) (xT := 20) Tryd.underlying38 v w
  refine callsD_of_wpS Tryd.func25 rfl fun c₀ cs hu => ?_
  apply wpS_seq
  simp only [Tryd.ntmps25, List.size_toArray, List.length_cons, List.length_nil, Nat.reduceAdd, Nat.reduceSub, Array.replicate_succ, Array.replicate_zero, List.push_toArray, List.append_toArray, List.nil_append, List.cons_append]
  refine region_recovers rfl rfl hu ?hL ?_
  case hL =>
    rintro ⟨_, _, h⟩
    obtain ⟨_, h, _⟩ := h
    cases h
  go_wp2_with fail
  refine wpS_of_wp ?_
  have e0 : w.heap.size ≠ a := fun h => by
    have h2 := (Array.getElem?_eq_some_iff.1 h0).1
    omega
  have e1 := e0.symm
  have hlt : a < w.heap.size := (Array.getElem?_eq_some_iff.1 h0).1
  have h0' : (w.alloc (.cells #[.int .i64 code, .int .i64 at_] 38)).heap[a]? = some (.cells #[x0, x1] 38 (0, 0)) := (Below.heap_alloc _ _ _ hlt).trans h0
  have k0 := Lib.cell_of_heap h0' 0
  have k1 := Lib.cell_of_heap h0' 1
  have z0 := Lib.frozen_of_heap h0' 0
  have z1 := Lib.frozen_of_heap h0' 1
  have HB : Hid (Below w.heap.size w (w.alloc (.cells #[.int .i64 code, .int .i64 at_] 38))) := (Below.refl _ w).alloc (Nat.le_refl _) _
  clear h0 h0' hlt
  go_wp2_with fail
  exact ⟨rfl, _, rfl, _, results_none rfl _ _ _, rfl, rfl, _, HB.out, rfl⟩
theorem catch_idle1 (a : Nat) (w : World) :
    CallsD Tryd.prog 25 #[.pointer (some ⟨a, 0, none⟩)] .returning w fun e u' w' => e = .returned (.tuple #[]) ∧ u' = .returning ∧ w' = w := by
  refine callsD_of_wpS Tryd.func25 rfl fun c₀ cs hu => ?_
  apply wpS_seq
  simp only [Tryd.ntmps25, List.size_toArray, List.length_cons, List.length_nil, Nat.reduceAdd, Nat.reduceSub, Array.replicate_succ, Array.replicate_zero, List.push_toArray, List.append_toArray, List.nil_append, List.cons_append]
  refine region_idle rfl rfl hu ?hL ?_
  case hL =>
    rintro ⟨_, _, h⟩
    obtain ⟨_, h, _⟩ := h
    cases h
  go_wp2_with fail
  refine wpS_of_wp ?_
  go_wp2_with fail
  exact ⟨rfl, _, rfl, _, results_none rfl _ _ _, rfl, hu, rfl⟩
/-- What caught leaves of the world W that the reading left: its own box alone is changed, and there may be more. -/
structure Beside (a : Nat) (W w' : World) : Prop where
  os : w'.os = W.os
  tape : w'.tape = W.tape
  output : w'.output = W.output
  size : W.heap.size ≤ w'.heap.size
  block : ∀ k, k < W.heap.size → k ≠ a → w'.heap[k]? = W.heap[k]?
theorem Beside.below {a B : Nat} {w W w' : World} (h : Beside a W w') (hb : Below B w W) (ha : B ≤ a) (hB : B ≤ W.heap.size) : Below B w w' :=
  ⟨h.os.trans hb.os, h.tape.trans hb.tape, h.output.trans hb.output, Nat.le_trans hb.size h.size, fun k hk => (h.block k (by omega) (by omega)).trans (hb.block k hk)⟩
theorem beside_set {a : Nat} {W V : World} (h : Below W.heap.size W V) (u v : Value) : Beside a W ((V.setCell ⟨a, 0, none⟩ u).setCell ⟨a, 1, none⟩ v) := by
  refine ⟨h.os, h.tape, h.output, ?_, fun k hk hka => ?_⟩
  · have e : ((V.setCell ⟨a, 0, none⟩ u).setCell ⟨a, 1, none⟩ v).heap.size = V.heap.size := by simp [World.setCell]
    rw [e]
    exact h.size
  · rw [Below.heap_setCell _ _ _ _ hka, Below.heap_setCell _ _ _ _ hka]
    exact h.block k hk
/-- The contract of caught, over what its reading g does from the world in which the box of the answer is made. -/
theorem caught_any (g : Nat) (eg : ∀ args w, (callFunc g args).run Tryd.prog w = .ok (.enter g args) w) (caps : Array Value) (w : World) (Q : World → Prop) (F : Int → Int → World → Prop)
    (hg : Calls Tryd.prog g caps (w.alloc (.cells #[.int .i64 0, .int .i64 0] 38)) fun e W => W.heap[w.heap.size]? = some (.cells #[.int .i64 0, .int .i64 0] 38 (0, 0)) ∧ ((e = .returned (.tuple #[]) ∧ Q W) ∨ (∃ c p, e = faultX c p ∧ F c p W))) :
    Calls Tryd.prog 17 #[.func (.func g) #[] caps] w fun e w' => ∃ W, Beside w.heap.size W w' ∧ ((e = .returned (.agg #[.int .i64 0, .int .i64 0]) ∧ Q W) ∨ (∃ c p, e = .returned (.agg #[.int .i64 c, .int .i64 p]) ∧ F c p W)) := by
  have hmf : ∀ (fn : Fn) (first cap : Array Value) (w : World), (Instr.makeFunc fn first cap).run Tryd.prog w = .ok (.func fn first cap) w := fun _ _ _ _ => rfl
  go_enter_defers Tryd.func17, Tryd.ntmps17
  go_wp2_with fail
  refine hg.mono ?_
  rintro e W ⟨hW, ⟨rfl, hQ⟩ | ⟨c, p, rfl, hF⟩⟩
  · have k0 := Lib.cell_of_heap hW 0
    have k1 := Lib.cell_of_heap hW 1
    have z0 := Lib.frozen_of_heap hW 0
    have z1 := Lib.frozen_of_heap hW 1
    have HQ : Hid (Q W) := hQ
    have HS := beside_set (a := w.heap.size) (Below.refl W.heap.size W) (.int .i64 0) (.int .i64 0)
    have HB : Hid (Beside w.heap.size W ((W.setCell ⟨w.heap.size, 0, none⟩ (.int .i64 0)).setCell ⟨w.heap.size, 1, none⟩ (.int .i64 0))) := HS
    have HC : Hid (((W.setCell ⟨w.heap.size, 0, none⟩ (.int .i64 0)).setCell ⟨w.heap.size, 1, none⟩ (.int .i64 0)).heap[w.heap.size]? = some (.cells #[.int .i64 0, .int .i64 0] 38 (0, 0))) := by
      show _ = _
      simp [World.setCell, Array.getElem?_modify, hW]
    clear hQ hW hg HS
    go_wp2_with fail
    refine leaves_cons (f := 25) (args := #[.pointer (some ⟨w.heap.size, 0, none⟩)]) (by simp) (by simp [go_sem]) ?_
    refine (catch_idle1 _ _).mono ?_
    rintro e u' F' ⟨rfl, rfl, rfl⟩
    simp only [settle]
    refine ⟨.agg #[.int .i64 0, .int .i64 0], ?_, W, HB.out, .inl ⟨rfl, HQ.out⟩⟩
    have q0 := Lib.cell_of_heap HC.out 0
    have q1 := Lib.cell_of_heap HC.out 1
    simp [results, Tryd.results17, asAddr, loadVar, isAgg, run_underlying Tryd.underlying38, go_sem, q0, q1]
  · have HF : Hid (F c p W) := hF
    have HW : Hid (W.heap[w.heap.size]? = some (.cells #[.int .i64 0, .int .i64 0] 38 (0, 0))) := hW
    clear hF hW hg
    unfold faultX
    refine leaves_cons (f := 25) (args := #[.pointer (some ⟨w.heap.size, 0, none⟩)]) (by simp) (by simp [go_sem]) ?_
    refine (catch_fault1 w.heap.size _ _ c p [] W HW.out).mono ?_
    rintro e u' F' ⟨rfl, rfl, V, hV, rfl⟩
    simp only [settle]
    have hV2 : V.heap[w.heap.size]? = some (.cells #[.int .i64 0, .int .i64 0] 38 (0, 0)) := (hV.block _ (Array.getElem?_eq_some_iff.1 HW.out).1).trans HW.out
    have hc : ((V.setCell ⟨w.heap.size, 0, none⟩ (.int .i64 c)).setCell ⟨w.heap.size, 1, none⟩ (.int .i64 p)).heap[w.heap.size]? = some (.cells #[.int .i64 c, .int .i64 p] 38 (0, 0)) := by
      simp [World.setCell, Array.getElem?_modify, hV2]
    refine ⟨.agg #[.int .i64 c, .int .i64 p], ?_, W, beside_set hV _ _, .inr ⟨c, p, rfl, HF.out⟩⟩
    have q0 := Lib.cell_of_heap hc 0
    have q1 := Lib.cell_of_heap hc 1
    simp [results, Tryd.results17, asAddr, loadVar, isAgg, run_underlying Tryd.underlying38, go_sem, q0, q1]
end Go.Proofs.YtfbgdkfnidghcajDoor
