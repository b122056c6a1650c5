/- The contract of spec.FoldFlow. -/
import Derived.Test.YtjpcmmfmdoglkalGreatDoorSls
import Derived.Test.YtjpcmmfmdoglkalGreatDoorProg
import Derived.WalkLawsBesides
import Derived.WalkSpells
import Derived.WalkMore
import Derived.Deep.QuietTactic
import Derived.BigQuiet
import Derived.Deep.Light
namespace Go.Proofs.YtjpcmmfmdoglkalGreatDoor
open Go.ChangeShapes Go.WideShapes Go.ChangeAt Go.RowKit
theorem ff_skip {L k n : Nat} {t : List Pc} {out : ByteArray} {g : Bool} (h0 : 0 < k) (h1 : k + 1 < L) : ffGo L k ((ByteArray.empty, false) :: t) out n g = ffGo L (k + 1) t out (n + 1) g := by
  rw [ffGo, if_pos ⟨h0, h1, rfl, rfl⟩]
theorem ff_take {L k n : Nat} {x : ByteArray} {gx : Bool} {t : List Pc} {out : ByteArray} {g : Bool} (h : ¬ (0 < k ∧ k + 1 < L ∧ x = ByteArray.empty ∧ gx = false)) :
    ffGo L k ((x, gx) :: t) out n g = ffGo L (k + 1) t ((if 0 < k ∧ n = 0 ∧ g = false then out ++ b32 else out) ++ brks n ++ x) 0 gx := by
  rw [ffGo, if_neg h]
theorem drop_pc {ps : List Pc} {k : Nat} {p : Pc} (h : ps[k]? = some p) : ps.drop k = p :: ps.drop (k + 1) := by
  have hl : k < ps.length := by
    rcases Nat.lt_or_ge k ps.length with h' | h'
    · exact h'
    · rw [List.getElem?_eq_none h'] at h; cases h
  rw [List.drop_eq_getElem_cons hl]
  congr 1
  rw [List.getElem?_eq_getElem hl] at h
  simpa using h
theorem empty_list : (ByteArray.empty.toList == ([] : List UInt8)) = true := by rw [ByteArray.toList_eq]; rfl
theorem nonempty_list {t : ByteArray} (h : t ≠ ByteArray.empty) : (t.toList == []) = false := by
  rw [beq_eq_false_iff_ne]
  intro e
  apply h
  rw [ByteArray.toList_eq] at e
  apply ba_ext'
  apply Array.ext'
  rw [e]; rfl
set_option maxHeartbeats 8000000 in
theorem spec_foldFlow (w : World) (v : Value) (ps : List Pc) (hV : SlC w v ps) (hl : totC ps + ps.length ≤ 8388608) :
    Calls Tryz.prog 65 #[v] w fun e w' => e = .returned (.string (foldFlow ps)) ∧ Below w.heap.size w w' := by
  obtain ⟨a, c, rfl⟩ := hV.sl
  have HV : Hid (SlC w (.slice a ps.length c) ps) := hV
  have hL : ps.length ≤ 8388608 := by omega
  have HT : Hid (totC ps ≤ 8388608) := by show totC ps ≤ 8388608; omega
  clear hV hl
  obtain ⟨R, hR⟩ : ∃ R, foldFlow ps = R := ⟨_, rfl⟩
  have HR : Hid (foldFlow ps = R) := hR
  rw [hR]
  clear hR
  go_enter Tryz.func65, Tryz.ntmps65
  go_wp2_with fail
  go_loopw [3, 4, 5, 10] (fun ov nv gv iv wr => ∃ (k n : Nat) (g : Bool) (out : ByteArray), k ≤ ps.length ∧ iv = .int .i64 k ∧ ov = .string out ∧ nv = .int .i64 n ∧ gv = .bool g ∧ Hid (ffGo ps.length k (ps.drop k) out n g = R) ∧ Hid (out.size + n ≤ totC (ps.take k) + 2 * k) ∧ Below w.heap.size w wr) (fun _ _ _ iv _ => ps.length - (intOf iv).toNat)
  case atStart =>
    refine ⟨0, 0, false, _, Nat.zero_le _, rfl, rfl, rfl, rfl, ?_, ?_, Below.refl _ _⟩
    · show ffGo ps.length 0 (ps.drop 0) ByteArray.empty 0 false = R
      rw [List.drop_zero]; exact HR.out
    · show ByteArray.empty.size + 0 ≤ _
      exact Nat.zero_le _
  case round =>
    obtain ⟨k, n, g, out, hk, rfl, rfl, rfl, rfl, HG, HS, hb⟩ := hrel
    by_cases hlt : k < ps.length
    · obtain ⟨⟨t, gx⟩, hx⟩ : ∃ h, ps[k]? = some h := ⟨_, List.getElem?_eq_getElem hlt⟩
      obtain ⟨b, off, rfl, c1, c2⟩ := HV.out.cells hb hx
      have hlt' : (k : Int) < (ps.length : Int) := by omega
      have HTT : Hid (totC (ps.take (k + 1)) = totC (ps.take k) + t.size) := totC_take hx
      have hts : t.size ≤ 8388608 := by have := totC_mem (List.mem_of_getElem? hx); have := HT.out; simp at *; omega
      have hos : out.size + n ≤ 33554432 := by have h1 := HS.out; have h2 := totC_le ps k; have h3 := HT.out; omega
      have HD : Hid (ps.drop k = (t, gx) :: ps.drop (k + 1)) := drop_pc hx
      have hB1 : Below w.heap.size w (wr.alloc (.cells #[.string t, .bool gx] 92)) := hb.alloc hb.size _
      clear hx
      by_cases hc : 0 < k ∧ k + 1 < ps.length ∧ t = ByteArray.empty ∧ gx = false
      · obtain ⟨h0, h1, rfl, rfl⟩ := hc
        have h0' : (0 : Int) < (k : Int) := by omega
        have h1' : (k : Int) < (ps.length : Int) - 1 := by omega
        have hE := empty_list
        have HG2 : Hid (ffGo ps.length (k + 1) (ps.drop (k + 1)) out (n + 1) g = R) := by
          show ffGo ps.length (k + 1) (ps.drop (k + 1)) out (n + 1) g = R
          rw [← HG.out, HD.out, ff_skip h0 h1]
        have HS2 : Hid (out.size + (n + 1) ≤ totC (ps.take (k + 1)) + 2 * (k + 1)) := by
          have := HS.out; have := HTT.out
          show out.size + (n + 1) ≤ _
          omega
        clear HG HS HTT HD
        go_wp2_with fail
        go_roundw
        case rel => exact ⟨k + 1, n + 1, g, out, hlt, by go_num, rfl, by go_num, rfl, HG2, HS2, hB1⟩
        case measure => simp [intOf]; omega
      · have HG2 : Hid (ffGo ps.length (k + 1) (ps.drop (k + 1)) ((if 0 < k ∧ n = 0 ∧ g = false then out ++ b32 else out) ++ brks n ++ t) 0 gx = R) := by
          show ffGo ps.length (k + 1) (ps.drop (k + 1)) ((if 0 < k ∧ n = 0 ∧ g = false then out ++ b32 else out) ++ brks n ++ t) 0 gx = R
          rw [← HG.out, HD.out, ff_take hc]
        have hway : k = 0 ∨ (0 < k ∧ (ps.length ≤ k + 1 ∨ (k + 1 < ps.length ∧ (t ≠ ByteArray.empty ∨ (t = ByteArray.empty ∧ gx = true))))) := by
          by_cases h0 : k = 0
          · exact .inl h0
          · refine .inr ⟨by omega, ?_⟩
            by_cases h1 : ps.length ≤ k + 1
            · exact .inl h1
            · refine .inr ⟨by omega, ?_⟩
              by_cases h2 : t = ByteArray.empty
              · refine .inr ⟨h2, ?_⟩
                cases gx with
                | true => rfl
                | false => exact absurd ⟨by omega, by omega, h2, rfl⟩ hc
              · exact .inl h2
        have HSB : Hid (out.size + n ≤ totC (ps.take k) + 2 * k) := HS
        obtain ⟨o1, ho1⟩ : ∃ o1, (if 0 < k ∧ n = 0 ∧ g = false then out ++ b32 else out) = o1 := ⟨_, rfl⟩
        have HO1 : Hid ((if 0 < k ∧ n = 0 ∧ g = false then out ++ b32 else out) = o1) := ho1
        rw [ho1] at HG2
        have hz1 : o1.size + n ≤ out.size + n + 1 ∧ (n = 0 ∨ o1.size + n ≤ out.size + n) := by
          rw [← ho1]
          split
          · rw [ByteArray.size_append]
            have : b32.size = 1 := rfl
            exact ⟨by omega, .inl (by omega)⟩
          · exact ⟨by omega, .inr (by omega)⟩
        have HZ1 : Hid (o1.size + n + t.size ≤ totC (ps.take (k + 1)) + 2 * (k + 1)) := by
          have h1 := hz1.1; have h2 := HS.out; have h3 := HTT.out
          show o1.size + n + t.size ≤ _
          omega
        have hz2 : o1.size + n ≤ 33554433 := by omega
        have hway2 : (¬ 0 < k ∧ o1 = out) ∨ (0 < k ∧ n ≠ 0 ∧ o1 = out) ∨ (0 < k ∧ n = 0 ∧ g = true ∧ o1 = out) ∨ (0 < k ∧ n = 0 ∧ g = false ∧ o1 = out ++ b32) := by
          rw [← ho1]
          by_cases h0 : 0 < k
          · by_cases hn : n = 0
            · cases g with
              | true => exact .inr (.inr (.inl ⟨h0, hn, rfl, by simp⟩))
              | false => exact .inr (.inr (.inr ⟨h0, hn, rfl, by simp [h0, hn]⟩))
            · exact .inr (.inl ⟨h0, hn, by simp [hn]⟩)
          · exact .inl ⟨h0, by simp [h0]⟩
        clear ho1 hz1 HG HS HTT HD hc
        have hE := empty_list
        obtain ⟨T, hT⟩ : ∃ T, o1 ++ brks n = T := ⟨_, rfl⟩
        have HT1 : Hid (o1 ++ brks n = T) := hT
        have hTz : T.size = o1.size + n := by rw [← hT, ByteArray.size_append, brks_size]
        rw [hT] at HG2
        have HZ2 : Hid ((T ++ t).size + 0 ≤ totC (ps.take (k + 1)) + 2 * (k + 1)) := by
          show (T ++ t).size + 0 ≤ _
          rw [ByteArray.size_append, hTz]
          exact HZ1.out
        have hTs : T.size ≤ 33554433 := by omega
        have hlen : (0 : Int) ≤ (ps.length : Int) := by omega
        clear hT hTz HZ1 HO1 HSB
        have fin : ∀ (o : ByteArray), o ++ brks 0 = T → o = T := fun o h => by rw [← h]; exact (app_empty o).symm
        have step : ∀ (o : ByteArray) (m : Nat), o ++ brks (m + 1) = T → (o ++ ⟨#[10]⟩) ++ brks m = T := fun o m h => by rw [← h, brks, app_assoc]; rfl
        have FIN : Hid (∀ (o : ByteArray), o ++ brks 0 = T → o = T) := fin
        have STEP : Hid (∀ (o : ByteArray) (m : Nat), o ++ brks (m + 1) = T → (o ++ ⟨#[10]⟩) ++ brks m = T) := step
        clear fin step
        rcases hway2 with ⟨h0, rfl⟩ | ⟨h0, hn, rfl⟩ | ⟨h0, rfl, rfl, rfl⟩ | ⟨h0, rfl, rfl, rfl⟩
        · have h0' : ¬ (0 : Int) < (k : Int) := by omega
          clear hway
          go_wp2_with fail
          go_loop [3, 4] (fun ov nv => ∃ (m : Nat) (o : ByteArray), nv = .int .i64 m ∧ ov = .string o ∧ o.size + m ≤ 33554433 ∧ Hid (o ++ brks m = T)) (fun _ nv => (intOf nv).toNat)
          case atStart => exact ⟨_, _, by go_num, rfl, by first | omega | (simp only [ByteArray.size_append]; show _ + 1 + 0 ≤ _; omega), HT1⟩
          case round =>
            obtain ⟨m, o, rfl, rfl, hoz, HOM⟩ := hrel
            cases m with
            | zero =>
              obtain rfl := FIN.out o HOM.out
              go_wp2_with fail
              go_roundw
              case rel => exact ⟨k + 1, 0, _, _, hlt, by go_num, rfl, rfl, rfl, HG2, HZ2, hB1⟩
              case measure => simp [intOf]; omega
            | succ m =>
              have HOM2 := STEP.out o m HOM.out
              have HM2 : Hid ((o ++ ⟨#[10]⟩) ++ brks m = T) := HOM2
              have hos2 : o.size ≤ 33554433 := by omega
              clear HOM HOM2
              go_wp2_with fail
              go_round
              case rel => exact ⟨m, _, by go_num, rfl, by rw [ByteArray.size_append]; show o.size + 1 + m ≤ _; omega, HM2⟩
              case measure => simp [intOf]
        all_goals
          have h0' : (0 : Int) < (k : Int) := by omega
          try have hn' : ¬ (n : Int) = 0 := by omega
          rcases hway with h1 | ⟨_, h1 | ⟨h1, h2 | ⟨h2, rfl⟩⟩⟩
          · exact absurd h1 (by omega)
          · have h1' : ¬ (k : Int) < (ps.length : Int) - 1 := by omega
            clear h1 h0
            go_wp2_with fail
            go_loop [3, 4] (fun ov nv => ∃ (m : Nat) (o : ByteArray), nv = .int .i64 m ∧ ov = .string o ∧ o.size + m ≤ 33554433 ∧ Hid (o ++ brks m = T)) (fun _ nv => (intOf nv).toNat)
            case atStart => exact ⟨_, _, by go_num, rfl, by first | omega | (simp only [ByteArray.size_append]; show _ + 1 + 0 ≤ _; omega), HT1⟩
            case round =>
              obtain ⟨m, o, rfl, rfl, hoz, HOM⟩ := hrel
              cases m with
              | zero =>
                obtain rfl := FIN.out o HOM.out
                go_wp2_with fail
                go_roundw
                case rel => exact ⟨k + 1, 0, _, _, hlt, by go_num, rfl, rfl, rfl, HG2, HZ2, hB1⟩
                case measure => simp [intOf]; omega
              | succ m =>
                have HOM2 := STEP.out o m HOM.out
                have HM2 : Hid ((o ++ ⟨#[10]⟩) ++ brks m = T) := HOM2
                have hos2 : o.size ≤ 33554433 := by omega
                clear HOM HOM2
                go_wp2_with fail
                go_round
                case rel => exact ⟨m, _, by go_num, rfl, by rw [ByteArray.size_append]; show o.size + 1 + m ≤ _; omega, HM2⟩
                case measure => simp [intOf]
          · have h1' : (k : Int) < (ps.length : Int) - 1 := by omega
            have h2' := nonempty_list h2
            clear h1 h0 h2
            go_wp2_with fail
            go_loop [3, 4] (fun ov nv => ∃ (m : Nat) (o : ByteArray), nv = .int .i64 m ∧ ov = .string o ∧ o.size + m ≤ 33554433 ∧ Hid (o ++ brks m = T)) (fun _ nv => (intOf nv).toNat)
            case atStart => exact ⟨_, _, by go_num, rfl, by first | omega | (simp only [ByteArray.size_append]; show _ + 1 + 0 ≤ _; omega), HT1⟩
            case round =>
              obtain ⟨m, o, rfl, rfl, hoz, HOM⟩ := hrel
              cases m with
              | zero =>
                obtain rfl := FIN.out o HOM.out
                go_wp2_with fail
                go_roundw
                case rel => exact ⟨k + 1, 0, _, _, hlt, by go_num, rfl, rfl, rfl, HG2, HZ2, hB1⟩
                case measure => simp [intOf]; omega
              | succ m =>
                have HOM2 := STEP.out o m HOM.out
                have HM2 : Hid ((o ++ ⟨#[10]⟩) ++ brks m = T) := HOM2
                have hos2 : o.size ≤ 33554433 := by omega
                clear HOM HOM2
                go_wp2_with fail
                go_round
                case rel => exact ⟨m, _, by go_num, rfl, by rw [ByteArray.size_append]; show o.size + 1 + m ≤ _; omega, HM2⟩
                case measure => simp [intOf]
          · have h1' : (k : Int) < (ps.length : Int) - 1 := by omega
            have h2' : (t.toList == []) = true := by rw [h2]; exact empty_list
            clear h1 h0 h2
            go_wp2_with fail
            go_loop [3, 4] (fun ov nv => ∃ (m : Nat) (o : ByteArray), nv = .int .i64 m ∧ ov = .string o ∧ o.size + m ≤ 33554433 ∧ Hid (o ++ brks m = T)) (fun _ nv => (intOf nv).toNat)
            case atStart => exact ⟨_, _, by go_num, rfl, by first | omega | (simp only [ByteArray.size_append]; show _ + 1 + 0 ≤ _; omega), HT1⟩
            case round =>
              obtain ⟨m, o, rfl, rfl, hoz, HOM⟩ := hrel
              cases m with
              | zero =>
                obtain rfl := FIN.out o HOM.out
                go_wp2_with fail
                go_roundw
                case rel => exact ⟨k + 1, 0, _, _, hlt, by go_num, rfl, rfl, rfl, HG2, HZ2, hB1⟩
                case measure => simp [intOf]; omega
              | succ m =>
                have HOM2 := STEP.out o m HOM.out
                have HM2 : Hid ((o ++ ⟨#[10]⟩) ++ brks m = T) := HOM2
                have hos2 : o.size ≤ 33554433 := by omega
                clear HOM HOM2
                go_wp2_with fail
                go_round
                case rel => exact ⟨m, _, by go_num, rfl, by rw [ByteArray.size_append]; show o.size + 1 + m ≤ _; omega, HM2⟩
                case measure => simp [intOf]
    · obtain rfl : k = ps.length := by omega
      have HE : Hid (out = R) := by
        show out = R
        have := HG.out
        rw [List.drop_length] at this
        exact this
      go_wp2_with fail
      go_ret
      rw [HE.out]
      exact ⟨rfl, hb⟩
end Go.Proofs.YtjpcmmfmdoglkalGreatDoor
