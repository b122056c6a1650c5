/- The deferred closure of impl.quotedAt: a fault becomes a code and a place; where there is none, nothing is changed. -/
import Derived.Test.YtcajfnhbfciahajDoorRcv
import Derived.Test.YtcajfnhbfciahajDoorProg
import Derived.WalkLawsBesides
import Derived.WalkSpells
import Derived.WalkMore
import Derived.Below
import Derived.Deep.RegionHeld3
namespace Go.Proofs.YtcajfnhbfciahajDoor
open Go.RowKit
set_option maxHeartbeats 4000000 in
theorem catch_fault (b0 b1 b2 : Nat) (x0 x1 x2 : Value) (code at_ : Int) (older : List PanicEntry) (w : World)
    (h0 : w.cell? ⟨b0, 0, none⟩ = some x0) (h1 : w.cell? ⟨b1, 0, none⟩ = some x1) (h2 : w.cell? ⟨b2, 0, none⟩ = some x2)
    (f0 : w.frozen? ⟨b0, 0, none⟩ = false) (f1 : w.frozen? ⟨b1, 0, none⟩ = false) (f2 : w.frozen? ⟨b2, 0, none⟩ = false) (n01 : b0 ≠ b1) (n02 : b0 ≠ b2) (n12 : b1 ≠ b2) :
    CallsD Tryd.prog 16 #[.pointer (some ⟨b0, 0, none⟩), .pointer (some ⟨b1, 0, none⟩), .pointer (some ⟨b2, 0, none⟩)] (.panicking ({ v := .iface 35 (.agg #[.int .i64 code, .int .i64 at_]), recovered := false } :: older)) w fun e u' w' =>
      e = .returned (.tuple #[]) ∧ u' = .panicking ({ v := .iface 35 (.agg #[.int .i64 code, .int .i64 at_]), recovered := true } :: older) ∧
      ∃ W, Below w.heap.size w W ∧ w' = (((W.setCell ⟨b0, 0, none⟩ (.string ⟨#[]⟩)).setCell ⟨b1, 0, none⟩ (.int .i64 at_)).setCell ⟨b2, 0, none⟩ (.int .i64 code)).drew := by
  have hta := fun (w : World) (v : Value) => assert_struct (P := Tryd.prog) (xT := 20) Tryd.underlying35 v w
  refine callsD_of_wpS Tryd.func16 rfl fun c₀ cs hu => ?_
  apply wpS_seq
  simp only [Tryd.ntmps16, List.size_toArray, List.length_cons, List.length_nil, Nat.reduceAdd, Nat.reduceSub, Array.replicate_succ, Array.replicate_zero, List.push_toArray, List.append_toArray, List.nil_append, List.cons_append]
  refine region_recovers rfl rfl hu ?hL ?_
  case hL =>
    rintro ⟨_, _, h⟩
    obtain ⟨_, h, _⟩ := h
    cases h
  have e0 : w.heap.size ≠ b0 := World.new_ne w _ h0
  have e1 : w.heap.size ≠ b1 := World.new_ne w _ h1
  have e2 : w.heap.size ≠ b2 := World.new_ne w _ h2
  go_wp2_with fail
  refine wpS_of_wp ?_
  go_wp2_with fail
  obtain ⟨W, hW⟩ : ∃ W, w.alloc (.cells #[.int .i64 code, .int .i64 at_] 35) = W := ⟨_, rfl⟩
  obtain ⟨Bf, hBf⟩ : ∃ Bf, w.heap.size = Bf := ⟨_, rfl⟩
  have hb : Below w.heap.size w W := by rw [← hW]; exact (Below.refl _ w).alloc (Nat.le_refl _) _
  have stay : ∀ {p : Addr} {v : Value}, w.cell? p = some v → W.cell? p = some v := fun h => (hb.cell (World.block_lt_of_cell? _ _ h)).trans h
  have stayf : ∀ {b : Nat} {v : Value}, w.cell? ⟨b, 0, none⟩ = some v → w.frozen? ⟨b, 0, none⟩ = false → W.frozen? ⟨b, 0, none⟩ = false := fun {b v} h hf => by
    have hlt : b < w.heap.size := World.block_lt_of_cell? _ _ h
    unfold World.frozen? at hf ⊢
    rw [hb.block b hlt]
    exact hf
  have k0 := stay h0
  have k1 := stay h1
  have k2 := stay h2
  have z0 := stayf h0 f0
  have z1 := stayf h1 f1
  have z2 := stayf h2 f2
  have hn : W.heap[Bf]? = some (.cells #[.int .i64 code, .int .i64 at_] 35 (0, 0)) := by rw [← hW, ← hBf]; exact heap_alloc_new w _
  have m0 : W.cell? ⟨Bf, 0, none⟩ = some (.int .i64 code) := by simp [World.cell?, hn]
  have m1 : W.cell? ⟨Bf, 1, none⟩ = some (.int .i64 at_) := by simp [World.cell?, hn]
  rw [hBf] at e0 e1 e2 ⊢
  rw [hW]
  have HB : Hid (Below w.heap.size w W) := hb
  clear hW hBf hb h0 h1 h2 f0 f1 f2 hn hta stay stayf
  have e0' := e0.symm
  have e1' := e1.symm
  have e2' := e2.symm
  have n10 := n01.symm
  have n20 := n02.symm
  have n21 := n12.symm
  go_region
  all_goals exact ⟨rfl, _, rfl, _, results_none rfl _ _ _, rfl, rfl, W, HB.out, rfl⟩
theorem catch_idle (b0 b1 b2 : Nat) (w : World) :
    CallsD Tryd.prog 16 #[.pointer (some ⟨b0, 0, none⟩), .pointer (some ⟨b1, 0, none⟩), .pointer (some ⟨b2, 0, none⟩)] .returning w fun e u' w' => e = .returned (.tuple #[]) ∧ u' = .returning ∧ w' = w := by
  refine callsD_of_wpS Tryd.func16 rfl fun c₀ cs hu => ?_
  apply wpS_seq
  simp only [Tryd.ntmps16, List.size_toArray, List.length_cons, List.length_nil, Nat.reduceAdd, Nat.reduceSub, Array.replicate_succ, Array.replicate_zero, List.push_toArray, List.append_toArray, List.nil_append, List.cons_append]
  refine region_idle rfl rfl hu ?hL ?_
  case hL =>
    rintro ⟨_, _, h⟩
    obtain ⟨_, h, _⟩ := h
    cases h
  go_wp2_with fail
  refine wpS_of_wp ?_
  go_wp2_with fail
  exact ⟨rfl, _, rfl, _, results_none rfl _ _ _, rfl, hu, rfl⟩
end Go.Proofs.YtcajfnhbfciahajDoor
