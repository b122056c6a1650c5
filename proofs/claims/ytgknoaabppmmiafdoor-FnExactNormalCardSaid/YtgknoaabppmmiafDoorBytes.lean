/- The contracts of laws.toByteS and laws.eqByteS: a copy of a list of bytes in new memory; whether two hold the same bytes. -/
import Derived.Test.YtgknoaabppmmiafDoorRows
import Derived.WalkKit
import Derived.ProofKit
import Derived.WalkLawsBesides
import Derived.WalkSpells
import Derived.Below
import Derived.Deep.OwnRows
import Derived.Deep.QuietTactic
import Derived.BigQuiet
import Derived.LoopN
namespace Go.Proofs.YtgknoaabppmmiafDoor
open Go.ChangeShapes Go.WideShapes Go.ChangeAt Go.RowKit Go.Deep
/-- The slice value v holds the bytes zs in the world w. -/
def Sl (w : World) (v : Value) (zs : List Int) : Prop :=
  (zs = [] ∧ ∃ a c, v = .slice a 0 c) ∨
  (zs ≠ [] ∧ ∃ b off c, v = .slice (some ⟨b, off, none⟩) zs.length c ∧ ∀ i, i < zs.length → w.cell? ⟨b, off + i, none⟩ = some (.int .u8 (zs.getD i 0)))
theorem Sl.stays {w w' : World} {v : Value} {zs : List Int} (h : Sl w v zs) (hb : Below w.heap.size w w') : Sl w' v zs := by
  rcases h with h | ⟨h, b, off, c, e, hc⟩
  · exact .inl h
  · exact .inr ⟨h, b, off, c, e, fun i hi => by
      rw [hb.cell (World.block_lt_of_cell? w _ (hc i hi))]; exact hc i hi⟩
theorem info5 : (Tryd.prog.info? 5).map (fun i => (i.zero, i.size, i.bytes)) = some (some (.int .u8 0), 1, 1) := by kernel_rfl
set_option maxHeartbeats 1000000 in
theorem toB_any (v : Value) (zs : List Int) (w : World) (hS : Sl w v zs) (hz : zs.length ≤ 1048576) :
    Calls Tryd.prog 7 #[v] w fun e w' => (∃ v', e = .returned v' ∧ Sl w' v' zs) ∧ Below w.heap.size w w' := by
  rcases hS with ⟨rfl, a, c, rfl⟩ | ⟨hne, b, off, c, rfl, hc⟩
  · have hmk : ∀ w : World, (Instr.makeSlice 22 (.int .i64 0) (.int .i64 0)).run Tryd.prog w = .ok (.slice (some ⟨w.heap.size, 0, none⟩) 0 0) (w.alloc (.cells (madeCells #[.int .u8 0] 0) 5)) := fun w => run_make_row' (P := Tryd.prog) 22 5 (.int .u8 0) 1 Tryd.underlying22 info5 rfl .i64 .i64 0 (by omega) (by omega) w
    go_enter Tryd.func7, Tryd.ntmps7
    go_wp2_with fail
    refine wp_loop_rounds 1 ?_
    rw [rounds_succ]
    go_wp2_with fail
    go_ret
    exact ⟨⟨_, rfl, .inl ⟨rfl, _, _, rfl⟩⟩, (Below.refl _ _).alloc (Nat.le_refl _) _⟩
  · have hmk := fun w => run_make_row' (P := Tryd.prog) 22 5 (.int .u8 0) 1 Tryd.underlying22 info5 rfl .i64 .i64 zs.length (by omega) (by omega) w
    have HC : Hid (∀ i, i < zs.length → w.cell? ⟨b, off + i, none⟩ = some (.int .u8 (zs.getD i 0))) := hc
    clear hc
    go_enter Tryd.func7, Tryd.ntmps7
    go_wp2_with fail
    go_loopw [4] (fun i wr => ∃ k : Nat, k ≤ zs.length ∧ i = .int .i64 k ∧ wr.rowIs w.heap.size 5 zs.length (fun j => if j < k then .int .u8 (zs.getD j 0) else .int .u8 0) ∧ Below w.heap.size w wr) (fun i _ => zs.length - (intOf i).toNat)
    case atStart => exact ⟨0, Nat.zero_le _, rfl, (World.rowIs_made w _ _ _).congr (fun i hi => by simp), (Below.refl _ _).alloc (Nat.le_refl _) _⟩
    case round =>
      obtain ⟨k, hk, rfl, hrow, hb⟩ := hrel
      have HR : Hid (wr.rowIs w.heap.size 5 zs.length (fun j => if j < k then .int .u8 (zs.getD j 0) else .int .u8 0)) := hrow
      clear hrow
      by_cases hlt : k < zs.length
      · have hcs : wr.cell? ⟨b, off + k, none⟩ = some (.int .u8 (zs.getD k 0)) := by
          rw [hb.cell (World.block_lt_of_cell? w _ (HC.out k hlt))]; exact HC.out k hlt
        have hcd : wr.cell? ⟨w.heap.size, k, none⟩ = some (.int .u8 0) := by
          rw [HR.out.cell hlt]; simp
        have hfd : wr.frozen? ⟨w.heap.size, k, none⟩ = false := HR.out.frozen k
        obtain ⟨z, hzk⟩ : ∃ z, zs.getD k 0 = z := ⟨_, rfl⟩
        rw [hzk] at hcs
        have HZ : Hid (zs.getD k 0 = z) := hzk
        clear hzk
        go_wp2_with fail
        go_roundw
        case rel =>
          refine ⟨k + 1, hlt, by go_num, (HR.out.set k _).congr (fun i hi => ?_), hb.setCell (Nat.le_refl _) _⟩
          by_cases e : i = k
          · rw [if_pos e, e, if_pos (by omega), HZ.out]
          · rw [if_neg e]
            by_cases e2 : i < k
            · rw [if_pos e2, if_pos (by omega)]
            · rw [if_neg e2, if_neg (by omega)]
        case measure => simp [intOf]; omega
      · go_wp2_with fail
        go_ret
        have e : k = zs.length := by omega
        refine ⟨⟨_, rfl, .inr ⟨hne, _, _, _, rfl, fun i hi => ?_⟩⟩, hb⟩
        rw [Nat.zero_add, HR.out.cell hi, e, if_pos hi]

set_option maxHeartbeats 1000000 in
theorem eqB_same (v u : Value) (zs : List Int) (w : World) (hS : Sl w v zs) (hT : Sl w u zs) (hz : zs.length ≤ 1048576) :
    Calls Tryd.prog 9 #[v, u] w fun e w' => e = .returned (.bool true) ∧ ∃ n, w' = w.drewN n := by
  rcases hS with ⟨rfl, a, c, rfl⟩ | ⟨hne, b, off, c, rfl, hc⟩
  · rcases hT with ⟨_, a', c', rfl⟩ | ⟨hne', _⟩
    · go_enter Tryd.func9, Tryd.ntmps9
      go_wp2_with fail
      refine wp_loop_rounds 1 ?_
      rw [rounds_succ]
      go_wp2_with fail
      go_ret
      exact ⟨rfl, 0, rfl⟩
    · exact absurd rfl hne'
  · rcases hT with ⟨e, _⟩ | ⟨_, b', off', c', rfl, hc'⟩
    · exact absurd e hne
    · have HC : Hid (∀ i, i < zs.length → w.cell? ⟨b, off + i, none⟩ = some (.int .u8 (zs.getD i 0))) := hc
      have HC' : Hid (∀ i, i < zs.length → w.cell? ⟨b', off' + i, none⟩ = some (.int .u8 (zs.getD i 0))) := hc'
      clear hc hc'
      go_enter Tryd.func9, Tryd.ntmps9
      go_wp2_with fail
      go_loopw [5] (fun i wr => ∃ k m : Nat, k ≤ zs.length ∧ i = .int .i64 k ∧ wr = w.drewN m) (fun i _ => zs.length - (intOf i).toNat)
      case atStart => exact ⟨0, 0, Nat.zero_le _, rfl, rfl⟩
      case round =>
        obtain ⟨k, m, hk, rfl, rfl⟩ := hrel
        by_cases hlt : k < zs.length
        · have h1 : w.cell? ⟨b, off + k, none⟩ = some (.int .u8 (zs.getD k 0)) := HC.out k hlt
          have h2 : w.cell? ⟨b', off' + k, none⟩ = some (.int .u8 (zs.getD k 0)) := HC'.out k hlt
          have hlt' : (k : Int) < (zs.length : Int) := by omega
          generalize zs.getD k 0 = z at h1 h2
          go_wp2_with fail
          go_quiet (fail)
          go_wp2_with fail
          go_roundw
          case rel => exact ⟨k + 1, _, hlt, by go_num, rfl⟩
          case measure => simp [intOf]; omega
        · go_wp2_with fail
          go_ret
          exact ⟨rfl, m, rfl⟩
end Go.Proofs.YtgknoaabppmmiafDoor
