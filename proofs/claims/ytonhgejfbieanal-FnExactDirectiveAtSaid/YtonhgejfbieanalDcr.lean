/- strings.ContainsRune over a blank and a tab: which runes it finds there. -/
import Derived.Test.YtonhgejfbieanalOvr
import Derived.Laws.Runes
import Derived.BigQuiet
import Derived.ScopeJumps
import Derived.Deep.LoopGhost
import Derived.Lib.OthersKept
namespace Go.Proofs.Ytonhgejfbieanal
open Go.ChangeShapes Go.WideShapes Go.ChangeAt Go.RowKit Go.Shelf
def wht : ByteArray := ⟨#[32, 9]⟩
set_option maxRecDepth 1000000 in
set_option maxHeartbeats 4000000 in
theorem validRune_any (x : Nat) (w : World) (hx : x ≤ 1114111) :
    Calls Try.prog 50 #[.int .i32 (x : Int)] w fun e w' => e = .returned (.bool (decide (x < 55296 ∨ 57343 < x))) ∧ w' = w := by
  have h0 : (0 : Int) ≤ (x : Int) := by omega
  have h1 : (x : Int) ≤ 1114111 := by omega
  by_cases h2 : (x : Int) < 55296
  · have e : decide (x < 55296 ∨ 57343 < x) = true := by simp; omega
    rw [e]
    go_enter Try.func50, Try.ntmps50
    go_wp2_with fail
    go_ret
    exact ⟨rfl, rfl⟩
  · by_cases h3 : (57343 : Int) < (x : Int)
    · have e : decide (x < 55296 ∨ 57343 < x) = true := by simp; omega
      rw [e]
      go_enter Try.func50, Try.ntmps50
      go_wp2_with fail
      go_ret
      exact ⟨rfl, rfl⟩
    · have e : decide (x < 55296 ∨ 57343 < x) = false := by simp; omega
      rw [e]
      go_enter Try.func50, Try.ntmps50
      go_wp2_with fail
      go_ret
      exact ⟨rfl, rfl⟩
theorem idx_wht (x : Nat) (hx : x < 128) : (decide (0 ≤ Lib.indexByte wht.data.toList ((x : Int).toNat.toUInt8))) = (x == 32 || x == 9) := by
  have : ∀ x : Fin 128, (decide (0 ≤ Lib.indexByte wht.data.toList (((x.val : Nat) : Int).toNat.toUInt8))) = (x.val == 32 || x.val == 9) := by decide
  exact this ⟨x, hx⟩
set_option maxRecDepth 1000000 in
set_option maxHeartbeats 4000000 in
/-- .. at a rune of one byte. -/
theorem idxRune_lo (x : Nat) (w : World) (hx : x < 128) :
    Calls Try.prog 45 #[.string wht, .int .i32 (x : Int)] w fun e w' => e = .returned (.int .i64 (Lib.indexByte wht.data.toList ((x : Int).toNat.toUInt8))) ∧ Below w.heap.size w w' := by
  have h0 : (0 : Int) ≤ (x : Int) := by omega
  have h1 : (x : Int) < 128 := by omega
  have hc : IntKind.u8.wrap (x : Int) = (x : Int) := by
    simp [IntKind.wrap, IntKind.bits, IntKind.signed]
    omega
  have cI := indexByte_any wht (x : Int) w
  go_enter Try.func45, Try.ntmps45
  go_wp2_with fail
  first
  | refine cI.mono ?_
  | (rw [hc]; refine cI.mono ?_)
  rintro e w1 ⟨rfl, rfl⟩
  go_wp2_with fail
  go_ret
  exact ⟨rfl, Below.refl _ _⟩
set_option maxRecDepth 1000000 in
set_option maxHeartbeats 4000000 in
/-- .. at the rune that broken bytes read as. -/
theorem idxRune_err (w : World) :
    Calls Try.prog 45 #[.string wht, .int .i32 65533] w fun e w' => e = .returned (.int .i64 (-1)) ∧ Below w.heap.size w w' := by
  have HW : Hid (Utf8.decode wht 0 = (32, 1) ∧ Utf8.decode wht 1 = (9, 1)) := by show _ ∧ _; decide
  go_enter Try.func45, Try.ntmps45
  go_wp2_with fail
  go_loopg [5] 2 (fun gf _ wx => ∃ pos : Nat, pos + gf = 2 ∧ wx.heap[w.heap.size]? = some (.stringIter wht pos) ∧ Hid (Below w.heap.size w wx))
  case atStart => exact ⟨0, rfl, World.iter_heap w wht 0, (Below.refl _ w).alloc (Nat.le_refl _) _⟩
  case round =>
    obtain ⟨pos, hp, hk, HB⟩ := hrel
    cases gk with
    | zero =>
      obtain rfl : pos = 2 := by omega
      have hnx : ∀ ty, (Instr.next (.pointer (some ⟨w.heap.size, 0, none⟩)) true ty).run Try.prog wr = .ok (.tuple #[.bool false]) wr := fun ty => Lib.run_next_end_at wr w.heap.size wht 2 ty hk (by decide)
      clear hk
      go_wp2_with fail
      go_ret
      exact ⟨rfl, HB.out⟩
    | succ gf =>
      have hd : ∃ r : Nat, Utf8.decode wht pos = (r, 1) ∧ r < 128 := by
        rcases (show pos = 0 ∨ pos = 1 by omega) with rfl | rfl
        · exact ⟨_, HW.out.1, by decide⟩
        · exact ⟨_, HW.out.2, by decide⟩
      obtain ⟨r, hd, hr⟩ := hd
      have hnx : ∀ ty, (Instr.next (.pointer (some ⟨w.heap.size, 0, none⟩)) true ty).run Try.prog wr = .ok (.tuple #[.bool true, .int .i64 (pos : Int), .int .i32 (r : Int)]) (wr.iterAt w.heap.size wht (pos + 1)) := fun ty => by
        have := Lib.run_next_any_at (P := Try.prog) wr w.heap.size wht pos ty hk (by show pos < 2; omega)
        rw [hd] at this
        exact this
      have hk2 := Lib.iterAt_heap wr w.heap.size wht pos (pos + 1) hk
      have HB2 : Hid (Below w.heap.size w (wr.iterAt w.heap.size wht (pos + 1))) := Lib.below_iterAt HB.out (Nat.le_refl _) wht (pos + 1)
      have hne : ((r : Int) == 65533) = false := by simp; omega
      have HK : Hid ((wr.iterAt w.heap.size wht (pos + 1)).heap[w.heap.size]? = some (.stringIter wht (pos + 1))) := hk2
      clear hk hk2 hd HW
      generalize wr.iterAt w.heap.size wht (pos + 1) = w2 at *
      go_wp2_with fail
      go_roundg gf
      case measure => omega
      case rel => exact ⟨pos + 1, by omega, HK.out, HB2⟩
set_option maxRecDepth 1000000 in
set_option maxHeartbeats 4000000 in
/-- .. at what is no rune. -/
theorem idxRune_no (x : Nat) (w : World) (h : 55296 ≤ x) (h' : x ≤ 57343) :
    Calls Try.prog 45 #[.string wht, .int .i32 (x : Int)] w fun e w' => e = .returned (.int .i64 (-1)) ∧ Below w.heap.size w w' := by
  have h0 : ¬ (x : Int) < 128 := by omega
  have h00 : (0 : Int) ≤ (x : Int) := by omega
  have h1 : ((x : Int) == 65533) = false := by simp; omega
  have cV := validRune_any x w (by omega)
  rw [show decide (x < 55296 ∨ 57343 < x) = false by simp; omega] at cV
  go_enter Try.func45, Try.ntmps45
  go_wp2_with fail
  refine cV.mono ?_
  rintro e w1 ⟨rfl, rfl⟩
  go_wp2_with fail
  go_ret
  exact ⟨rfl, Below.refl _ _⟩
set_option maxRecDepth 1000000 in
set_option maxHeartbeats 4000000 in
/-- .. at a rune of two bytes or more. -/
theorem idxRune_hi (s : ByteArray) (hs : s.size = 2) (hb : bt s 1 = 9) (x : Nat) (w : World) (h : 128 ≤ x) (hx : x ≤ 1114111) (he : x ≠ 65533) (hv : x < 55296 ∨ 57343 < x) :
    Calls Try.prog 45 #[.string s, .int .i32 (x : Int)] w fun e w' => e = .returned (.int .i64 (-1)) ∧ Below w.heap.size w w' := by
  have h0 : ¬ (x : Int) < 128 := by omega
  have h00 : (0 : Int) ≤ (x : Int) := by omega
  have h1 : ((x : Int) == 65533) = false := by simp; omega
  have cV := validRune_any x w hx
  rw [show decide (x < 55296 ∨ 57343 < x) = true by simp; omega] at cV
  obtain ⟨z2, z4, zl⟩ := encode_facts (x : Int) (by rw [validRune_eq]; unfold validRune; simp; omega) (by omega)
  generalize hE : Utf8.encode (x : Int) = E at *
  have hsz : ∃ n : Nat, E.size = n + 1 ∧ 1 ≤ n ∧ n ≤ 3 := ⟨E.size - 1, by omega, by omega, by omega⟩
  obtain ⟨n, hn, n1, n3⟩ := hsz
  have hs' : ((s.size : Nat) : Int) = 2 := by omega
  by_cases hn1 : n = 1
  · subst hn1
    obtain ⟨c, hc, hge⟩ : ∃ c : UInt8, E[1]? = some c ∧ 128 ≤ c.toNat := by
      refine ⟨E[1]'(by omega), by simp [show 1 < E.size by omega], ?_⟩
      have := zl (by omega)
      simpa [hn] using this
    obtain ⟨d, hd, hd9⟩ : ∃ d : UInt8, s[1]? = some d ∧ d.toNat = 9 := by
      refine ⟨s[1]'(by omega), by simp [show 1 < s.size by omega], ?_⟩
      unfold bt at hb
      rw [getElem!_pos s.data 1 (by show 1 < s.size; omega)] at hb
      exact hb
    have hE1 : (E[1]'(by omega)) = c := by simpa [show 1 < E.size by omega] using hc
    have hS1 : (s[1]'(by omega)) = d := by simpa [show 1 < s.size by omega] using hd
    have HS : Hid (Below w.heap.size w w) := Below.refl _ _
    have hne : (((d.toNat : Nat) : Int) != ((c.toNat : Nat) : Int)) = true := by simp; omega
    have cI : Hid (∀ w, Calls Try.prog 49 #[.string ByteArray.empty, .int .u8 ((c.toNat : Nat) : Int)] w fun e w' => e = .returned (.int .i64 (-1)) ∧ w' = w) := fun w => indexByte_any ByteArray.empty ((c.toNat : Nat) : Int) w
    have hwr : IntKind.i64.wrap 2 = 2 := by decide
    have hle : (2 : Nat) ≤ s.size := by omega
    clear zl hb z2 z4 hx he hv h n1 n3
    go_enter Try.func45, Try.ntmps45
    go_wp2_with fail
    refine cV.mono ?_
    rintro e w1 ⟨rfl, rfl⟩
    clear cV
    go_wp2_with fail
    refine wp_scope_jumps 1 (fun _ _ => False) (fun _ _ => 0) rfl ?_ (fun a w h => h.elim)
    go_wp2_with fail
    refine wp_loop_rounds 1 ?_
    rw [rounds_succ]
    go_wp2_with fail
    refine wp_scope_jumps 0 (fun _ _ => False) (fun _ _ => 0) rfl ?_ (fun a w h => h.elim)
    go_wp2_with fail
    go_quiet (fail)
    have HS2 : Hid (Below w1.heap.size w1 (w1.drewN nq)) := ⟨HS.out.os, HS.out.tape, HS.out.output, HS.out.size, HS.out.block⟩
    generalize w1.drewN nq = w2 at *
    go_wp2_with fail
    go_quiet ((first | (go_at_call 49; exact Calls.quiet_of_same (cI.out _))))
    go_wp2_with fail
    try simp only [Exit.jump, Exit.inBlock, Exit.then]
    first
    | go_ret
    | (rename_i QQ; (show Exit.jump _ _ _ _ _ _); simp only [Exit.jump]; go_ret)
    | (rename_i QQ _ _; (show Exit.jump _ _ _ _ _ _); simp only [Exit.jump]; go_ret)
    | (simp +zetaDelta only [Exit.jump]; go_ret)
    exact ⟨rfl, ⟨HS2.out.os, HS2.out.tape, HS2.out.output, HS2.out.size, HS2.out.block⟩⟩
  · have hn2 : ¬ ((n : Int) < 2) := by omega
    have HS : Hid (Below w.heap.size w w) := Below.refl _ _
    clear zl hb z2 z4 hx he hv h hs hn1
    go_enter Try.func45, Try.ntmps45
    go_wp2_with fail
    refine cV.mono ?_
    rintro e w1 ⟨rfl, rfl⟩
    clear cV
    go_wp2_with fail
    refine wp_scope_jumps 1 (fun _ _ => False) (fun _ _ => 0) rfl ?_ (fun a w h => h.elim)
    go_wp2_with fail
    refine wp_loop_rounds 1 ?_
    rw [rounds_succ]
    go_wp2_with fail
    try simp only [Exit.jump]
    go_ret
    exact ⟨rfl, HS.out⟩
theorem pW_is (x : Nat) : pW x = (x == 32 || x == 9) := rfl
set_option maxRecDepth 1000000 in
set_option maxHeartbeats 4000000 in
/-- .. at every rune. -/
theorem contW_any (x : Nat) (w : World) (hx : x ≤ 1114111) :
    Calls Try.prog 29 #[.string wht, .int .i32 (x : Int)] w fun e w' => e = .returned (.bool (pW x)) ∧ Below w.heap.size w w' := by
  obtain ⟨v, hv, cR⟩ : ∃ v : Int, decide (0 ≤ v) = pW x ∧ Calls Try.prog 45 #[.string wht, .int .i32 (x : Int)] w fun e w' => e = .returned (.int .i64 v) ∧ Below w.heap.size w w' := by
    by_cases h1 : x < 128
    · exact ⟨_, (idx_wht x h1).trans (pW_is x).symm, idxRune_lo x w h1⟩
    · refine ⟨-1, by rw [pW_is]; simp; omega, ?_⟩
      by_cases h2 : x = 65533
      · subst h2; exact idxRune_err w
      · by_cases h3 : x < 55296 ∨ 57343 < x
        · exact idxRune_hi wht rfl rfl x w (by omega) hx h2 h3
        · exact idxRune_no x w (by omega) (by omega)
  go_enter Try.func29, Try.ntmps29
  go_wp2_with fail
  refine cR.mono ?_
  rintro e w1 ⟨rfl, hb⟩
  have HB : Hid (Below w.heap.size w w1) := hb
  have HV : Hid (decide (0 ≤ v) = pW x) := hv
  clear cR hb hv
  go_wp2_with fail
  go_ret
  refine ⟨?_, HB.out⟩
  rw [← HV.out]
  rfl
set_option maxRecDepth 1000000 in
set_option maxHeartbeats 4000000 in
theorem dirWhite_any (x : Nat) (w : World) (hx : x ≤ 1114111) :
    Calls Try.prog 28 #[.int .i32 (x : Int)] w fun e w' => e = .returned (.bool (pW x)) ∧ Below w.heap.size w w' := by
  have cR := contW_any x w hx
  go_enter Try.func28, Try.ntmps28
  go_wp2_with fail
  refine cR.mono ?_
  rintro e w1 ⟨rfl, hb⟩
  have HB : Hid (Below w.heap.size w w1) := hb
  clear cR hb
  go_wp2_with fail
  go_ret
  exact ⟨rfl, HB.out⟩
end Go.Proofs.Ytonhgejfbieanal
