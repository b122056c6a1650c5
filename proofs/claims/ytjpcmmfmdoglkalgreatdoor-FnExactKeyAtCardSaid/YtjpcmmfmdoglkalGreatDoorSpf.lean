/- The contract of spec.PlainFirst. -/
import Derived.Test.YtjpcmmfmdoglkalGreatDoorFlw
import Derived.Lib.SlBytesConst
namespace Go.Proofs.YtjpcmmfmdoglkalGreatDoor
open Go.ChangeShapes Go.WideShapes Go.ChangeAt Go.RowKit
theorem gapP_lt {s : ByteArray} {k : Nat} (h : gapP s k = false) : k < s.size := by
  unfold gapP at h
  rcases Nat.lt_or_ge k s.size with h' | h'
  · exact h'
  · rw [decide_eq_true h'] at h; cases h
def bads : Array Value := (badL.map fun (n : Nat) => Value.int .u8 (n : Int)).toArray
theorem bads_at {i n : Nat} (h : badL[i]? = some n) : bads[i]? = some (.int .u8 (n : Int)) := by
  unfold bads
  rw [List.getElem?_toArray, List.getElem?_map, h]; rfl
theorem plF_bad {s : ByteArray} {k : Nat} {fl : Bool} (h : gapP s k = false) (hb : bt s k ∈ badL) : plF s k fl = false := by
  unfold plF; rw [if_neg (by rw [h]; simp), if_pos hb]
theorem plF_gap {s : ByteArray} {k : Nat} {fl : Bool} (h : gapP s k = true) : plF s k fl = false := by
  unfold plF; rw [if_pos h]
theorem plF_yes {s : ByteArray} {k : Nat} {fl : Bool} (h : gapP s k = false) (hb : bt s k ∉ badL) (h3 : bt s k ≠ 45 ∧ bt s k ≠ 63 ∧ bt s k ≠ 58) : plF s k fl = true := by
  unfold plF; rw [if_neg (by rw [h]; simp), if_neg hb, if_pos h3]
theorem plF_ask {s : ByteArray} {k : Nat} {fl : Bool} (h : gapP s k = false) (hb : bt s k ∉ badL) (h3 : ¬ (bt s k ≠ 45 ∧ bt s k ≠ 63 ∧ bt s k ≠ 58)) : plF s k fl = (!gapP s (k + 1) && !(fl && pF6 (bt s (k + 1)))) := by
  unfold plF; rw [if_neg (by rw [h]; simp), if_neg hb, if_neg h3]
set_option maxHeartbeats 8000000 in
theorem spec_plainFirst (s : ByteArray) (p : Int) (fl : Bool) (w : World) (hs : s.size ≤ mx) (b : Bool) (hb : plF s (cl s.size p) fl = b) :
    Calls Tryz.prog 30 #[.string s, .int .i64 p, .bool fl] w fun e w' => e = .returned (.bool b) ∧ Below w.heap.size w w' := by
  have hcl := cl_le s.size p
  have hs' := hs
  unfold mx at hs'
  have HB : Hid (plF s (cl s.size p) fl = b) := hb
  clear hb
  go_enter Tryz.func30, Tryz.ntmps30
  go_wp2_with fail
  refine (l01P_any _ _ _ hs).mono ?_
  rintro e w ⟨rfl, rfl⟩
  generalize cl s.size p = k at *
  cases hg : gapP s k with
  | true =>
    have cG := spec_gap1 s k w true hg.symm
    obtain rfl : false = b := by rw [← HB.out]; exact (plF_gap hg).symm
    clear HB hg
    go_wp2_with fail
    refine cG.mono ?_
    rintro e w ⟨rfl, rfl⟩
    clear cG
    go_wp2_with fail
    go_ret
    exact ⟨rfl, Below.refl _ _⟩
  | false =>
    have cG := spec_gap1 s k w false hg.symm
    have hlt := gapP_lt hg
    have hlt' : (k : Int) < (s.size : Int) := by omega
    have hbt := bt_get s k hlt
    have HG : Hid (gapP s k = false) := hg
    have HBT : Hid ((s[k]'hlt).toNat = bt s k) := hbt
    have hblk : (w.alloc (.cells bads 5 (16, 17))).heap[w.heap.size]? = some (.cells bads 5 (16, 17)) := by
      show (w.heap.push _)[w.heap.size]? = _
      simp
    have hal : Below w.heap.size w (w.alloc (.cells bads 5 (16, 17))) := (Below.refl _ w).alloc (Nat.le_refl _) _
    have HBLK : Hid ((w.alloc (.cells bads 5 (16, 17))).heap[w.heap.size]? = some (.cells bads 5 (16, 17))) := hblk
    have HAL : Hid (Below w.heap.size w (w.alloc (.cells bads 5 (16, 17)))) := hal
    clear hg hbt hblk hal
    have hcv := fun (w : World) (C : Array Value) (n c : Nat) => Lib.run_convert_bytes_const (P := Tryz.prog) w 89 5 C n c Tryz.underlying89 Tryz.underlying5
    go_wp2_with fail
    refine cG.mono ?_
    rintro e w ⟨rfl, rfl⟩
    clear cG
    go_wp2_with fail
    clear hcv
    have hwb : (w.alloc (Obj.cells #[Value.int IntKind.u8 44, Value.int IntKind.u8 91, Value.int IntKind.u8 93, Value.int IntKind.u8 123, Value.int IntKind.u8 125, Value.int IntKind.u8 35, Value.int IntKind.u8 38, Value.int IntKind.u8 42, Value.int IntKind.u8 33, Value.int IntKind.u8 124, Value.int IntKind.u8 62, Value.int IntKind.u8 39, Value.int IntKind.u8 34, Value.int IntKind.u8 37, Value.int IntKind.u8 64, Value.int IntKind.u8 96] 5 (16, 17))) = w.alloc (.cells bads 5 (16, 17)) := rfl
    rw [hwb]
    clear hwb
    generalize w.alloc (.cells bads 5 (16, 17)) = wA at *
    go_loop [18] (fun iv => ∃ i : Nat, i ≤ 16 ∧ iv = .int .i64 i ∧ Hid (∀ j n, j < i → badL[j]? = some n → bt s k ≠ n)) (fun iv => 16 - (intOf iv).toNat)
    case atStart => exact ⟨0, by omega, rfl, fun j n hj => by omega⟩
    case round =>
      obtain ⟨i, hi, rfl, HN⟩ := hrel
      by_cases hil : i < 16
      · obtain ⟨n, hn⟩ : ∃ n, badL[i]? = some n := ⟨_, List.getElem?_eq_getElem (by show i < 16; exact hil)⟩
        have c1 : wA.cell? ⟨w.heap.size, i, none⟩ = some (.int .u8 (n : Int)) := by
          have h := HBLK.out
          have h2 := bads_at hn
          simp [World.cell?, h, h2]
        have hil' : (i : Int) < 16 := by omega
        by_cases hc : (s[k]'hlt).toNat = n
        · obtain rfl : false = b := by
            rw [← HB.out]
            exact (plF_bad HG.out (by rw [← HBT.out, hc]; exact List.mem_of_getElem? hn)).symm
          have hc' : (((s[k]'hlt).toNat : Int) == (n : Int)) = true := by rw [hc]; simp
          clear hc hn HB
          go_wp2_with fail
          go_ret
          exact ⟨rfl, HAL.out⟩
        · have HN2 : Hid (∀ j n, j < i + 1 → badL[j]? = some n → bt s k ≠ n) := by
            show ∀ j n, j < i + 1 → badL[j]? = some n → bt s k ≠ n
            intro j m hj hm
            rcases Nat.lt_or_eq_of_le (Nat.le_of_lt_succ hj) with h | h
            · exact HN.out j m h hm
            · subst h
              rw [hn] at hm
              injection hm with hm
              rw [← HBT.out, ← hm]
              exact hc
          have hc' : (((s[k]'hlt).toNat : Int) == (n : Int)) = false := by rw [beq_eq_false_iff_ne]; omega
          clear hc hn HN
          go_wp2_with fail
          go_round
          case rel => exact ⟨i + 1, hil, by go_num, HN2⟩
          case measure => simp [intOf]; omega
      · have hil' : ¬ (i : Int) < 16 := by omega
        have HNB : Hid (bt s k ∉ badL) := by
          show bt s k ∉ badL
          intro hm
          obtain ⟨j, hj⟩ := List.getElem?_of_mem hm
          have hjl : j < 16 := by
            rcases Nat.lt_or_ge j 16 with h | h
            · exact h
            · rw [List.getElem?_eq_none (by show 16 ≤ j; exact h)] at hj; cases hj
          exact HN.out j _ (by omega) hj rfl
        clear HN
        have done : ∀ (b' : Bool), plF s k fl = b' → b' = b := fun b' h => by rw [← h]; exact HB.out
        by_cases h3 : (s[k]'hlt).toNat ≠ 45 ∧ (s[k]'hlt).toNat ≠ 63 ∧ (s[k]'hlt).toNat ≠ 58
        · obtain rfl := done true (plF_yes HG.out HNB.out (by rw [← HBT.out]; exact h3))
          obtain ⟨a1, a2, a3⟩ := h3
          have a1' : (((s[k]'hlt).toNat : Int) != 45) = true := by rw [bne_iff_ne]; omega
          have a2' : (((s[k]'hlt).toNat : Int) != 63) = true := by rw [bne_iff_ne]; omega
          have a3' : (((s[k]'hlt).toNat : Int) != 58) = true := by rw [bne_iff_ne]; omega
          clear a1 a2 a3 done HB
          go_wp2_with fail
          go_ret
          exact ⟨rfl, HAL.out⟩
        · have hask := plF_ask (fl := fl) HG.out HNB.out (by rw [← HBT.out]; exact h3)
          have h3' : (s[k]'hlt).toNat = 45 ∨ (s[k]'hlt).toNat = 63 ∨ (s[k]'hlt).toNat = 58 := by omega
          clear h3
          have way : (gapP s (k + 1) = true ∧ b = false) ∨ (gapP s (k + 1) = false ∧ fl = false ∧ b = true) ∨ (gapP s (k + 1) = false ∧ fl = true ∧ b = !pF6 (bt s (k + 1))) := by
            have h := done _ hask
            cases h1 : gapP s (k + 1) with
            | true => rw [h1] at h; exact .inl ⟨rfl, by rw [← h]; rfl⟩
            | false =>
              rw [h1] at h
              cases fl with
              | false => exact .inr (.inl ⟨rfl, rfl, by rw [← h]; rfl⟩)
              | true => exact .inr (.inr ⟨rfl, rfl, by rw [← h]; rfl⟩)
          clear done hask HB
          have tests : Hid ((s[k]'hlt).toNat = 45 ∨ (s[k]'hlt).toNat = 63 ∨ (s[k]'hlt).toNat = 58) := h3'
          clear h3'
          rcases way with ⟨h1, rfl⟩ | ⟨h1, rfl, rfl⟩ | ⟨h1, rfl, hbb⟩
          · have cG := spec_gap1 s (k + 1) wA true h1.symm
            rw [show ((k + 1 : Nat) : Int) = (k : Int) + 1 from rfl] at cG
            clear h1
            rcases tests.out with h | h | h
            all_goals
              have h' : ((s[k]'hlt).toNat : Int) = _ := congrArg Nat.cast h
              clear h tests
              go_wp2_with fail
              refine cG.mono ?_
              rintro e w2 ⟨rfl, rfl⟩
              clear cG
              go_wp2_with fail
              go_ret
              exact ⟨rfl, HAL.out⟩
          · have cG := spec_gap1 s (k + 1) wA false h1.symm
            rw [show ((k + 1 : Nat) : Int) = (k : Int) + 1 from rfl] at cG
            clear h1
            rcases tests.out with h | h | h
            all_goals
              have h' : ((s[k]'hlt).toNat : Int) = _ := congrArg Nat.cast h
              clear h tests
              go_wp2_with fail
              refine cG.mono ?_
              rintro e w2 ⟨rfl, rfl⟩
              clear cG
              go_wp2_with fail
              go_ret
              exact ⟨rfl, HAL.out⟩
          · have cG := spec_gap1 s (k + 1) wA false h1.symm
            rw [show ((k + 1 : Nat) : Int) = (k : Int) + 1 from rfl] at cG
            have hlt1 := gapP_lt h1
            have hlt1' : (k : Int) + 1 < (s.size : Int) := by omega
            have cF := flow6 ((s[k + 1]'hlt1).toNat) wA (pF6 (bt s (k + 1))) (by rw [bt_get s (k + 1) hlt1])
            obtain ⟨bf, hbf⟩ : ∃ bf, pF6 (bt s (k + 1)) = bf := ⟨_, rfl⟩
            rw [hbf] at cF hbb
            subst hbb
            clear h1 hbf
            rcases tests.out with h | h | h
            all_goals
              have h' : ((s[k]'hlt).toNat : Int) = _ := congrArg Nat.cast h
              clear h tests
              go_wp2_with fail
              refine cG.mono ?_
              rintro e w2 ⟨rfl, rfl⟩
              clear cG
              go_wp2_with fail
              refine cF.mono ?_
              rintro e w2 ⟨rfl, rfl⟩
              clear cF
              cases bf
              all_goals
                go_wp2_with fail
                go_ret
                exact ⟨rfl, HAL.out⟩
end Go.Proofs.YtjpcmmfmdoglkalGreatDoor
