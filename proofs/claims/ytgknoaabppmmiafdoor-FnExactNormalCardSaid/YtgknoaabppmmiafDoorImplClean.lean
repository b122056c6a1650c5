/- impl.Clean answers 'clean s', and changes nothing that was there. -/
import Derived.Test.YtgknoaabppmmiafDoorClean
namespace Go.Proofs.YtgknoaabppmmiafDoor
open Go.ChangeShapes Go.WideShapes Go.ChangeAt Go.RowKit
theorem next_any (w : World) (s : ByteArray) (pos m : Nat) (c n : Nat) (h : pos < s.size) (hd : Utf8.decode s pos = (c, n)) :
    (Instr.next (.pointer (some ⟨w.heap.size, 0, none⟩)) true 0).run Tryd.prog ((w.iter s pos).drewN m) =
      .ok (.tuple #[.bool true, .int .i64 pos, .int .i32 (c : Int)]) ((w.iter s (pos + n)).drewN m) := by
  have := run_next_any (P := Tryd.prog) (w.drewN m) s pos 0 h
  rw [hd] at this
  exact this
theorem next_end (w : World) (s : ByteArray) (pos m : Nat) (h : ¬ pos < s.size) :
    (Instr.next (.pointer (some ⟨w.heap.size, 0, none⟩)) true 0).run Tryd.prog ((w.iter s pos).drewN m) =
      .ok (.tuple #[.bool false]) ((w.iter s pos).drewN m) :=
  run_next_end (P := Tryd.prog) (w.drewN m) s pos 0 h
theorem iterPos_drewN (w : World) (s : ByteArray) (pos m : Nat) : ((w.iter s pos).drewN m).iterPos w.heap.size = pos := by
  show (w.iter s pos).iterPos w.heap.size = pos
  simp
set_option maxHeartbeats 1000000 in
theorem impl_clean (s : ByteArray) (w : World) :
    Calls Tryd.prog 18 #[.string s] w fun e w' => e = .returned (.int .i64 (clean s)) ∧ Below w.heap.size w w' := by
  go_enter Tryd.func18, Tryd.ntmps18
  go_wp2_with fail
  go_loopw [] (fun w' => ∃ k f m : Nat, k ≤ s.size ∧ w' = (w.iter s k).drewN m ∧ s.size ≤ k + f ∧ cgo s f k = clean s) (fun w' => s.size - w'.iterPos w.heap.size)
  case atStart => exact ⟨0, s.size, 0, Nat.zero_le _, rfl, by omega, rfl⟩
  case round =>
    obtain ⟨k, f, m, hk, rfl, hf, hc⟩ := hrel
    have HC : Hid (cgo s f k = clean s) := hc
    clear hc
    by_cases hlt : k < s.size
    · rcases decode_ra s k hlt with ⟨h0, hd⟩ | ⟨n1, n4, c0, c1, hd, hz, hp3⟩
      · have HS : Hid (cgo s f k = k) := cgo_stop s f k (by rw [h0]; simp)
        have HB : Hid (stB s k 65533 = false) := by
          show stB s k 65533 = false
          unfold stB; rw [h0]; simp
        have hnx := next_any w s k m 65533 1 hlt hd
        clear hd h0
        go_wp2_with fail
        refine (allowed_is 65533 _ true (by decide)).mono ?_
        rintro e w3 ⟨rfl, rfl⟩
        go_wp2_with fail
        refine (stands_is s k 65533 _ hk false HB.out).mono ?_
        rintro e w3 ⟨rfl, j, rfl⟩
        go_wp2_with fail
        go_ret
        exact ⟨ret_int (by rw [← HC.out, HS.out]), iter_below w s _ _⟩
      · obtain ⟨c, n, hra⟩ : ∃ c n, ra s k = (c, n) := ⟨_, _, rfl⟩
        rw [hra] at n1 n4 c0 c1 hd hz hp3
        simp only at n1 n4 c0 c1 hd hz hp3
        have hnx := next_any w s k m _ _ hlt hd
        rw [Int.toNat_of_nonneg c0] at hnx
        cases hal : al c with
        | false =>
          have HA : Hid (al c = false) := hal
          have HS : Hid (cgo s f k = k) := cgo_stop s f k (by rw [hra]; simp [hal])
          clear hra hal hd hz
          go_wp2_with fail
          refine (allowed_is c _ false HA.out).mono ?_
          rintro e w3 ⟨rfl, rfl⟩
          go_wp2_with fail
          go_ret
          exact ⟨ret_int (by rw [← HC.out, HS.out]), iter_below w s _ _⟩
        | true =>
          have HA : Hid (al c = true) := hal
          have HB : Hid (stB s k c = true) := by
            show stB s k c = true
            unfold stB; rw [hra, decide_eq_true_eq]
            rintro rfl
            rw [hz]; rfl
          have HS : Hid (cgo s f k = cgo s (f - 1) (k + n.toNat)) := by
            have := cgo_step s f k hf ⟨hlt, by rw [hra]; simp only; omega, by rw [hra]; exact hal⟩
            rw [hra] at this
            exact this
          clear hra hal hd hz
          go_wp2_with fail
          refine (allowed_is c _ true HA.out).mono ?_
          rintro e w3 ⟨rfl, rfl⟩
          go_wp2_with fail
          refine (stands_is s k c _ hk true HB.out).mono ?_
          rintro e w3 ⟨rfl, j, rfl⟩
          go_wp2_with fail
          go_roundw
          case rel => exact ⟨k + n.toNat, f - 1, m + j, hp3, rfl, by omega, by rw [← HS.out, HC.out]⟩
          case measure => rw [iterPos_drewN, iterPos_drewN]; omega
    · have HS : Hid (cgo s f k = k) := cgo_stop s f k (by intro h; exact hlt h.1)
      have hke : k = s.size := by omega
      have hnx := next_end w s k m hlt
      have HE : Hid (k = s.size) := hke
      clear hke
      go_wp2_with fail
      go_ret
      exact ⟨ret_int (by rw [← HC.out, HS.out, HE.out]), iter_below w s _ _⟩
end Go.Proofs.YtgknoaabppmmiafDoor
