/- The contract of spec.EscapeAt. -/
import Derived.Test.YtjpcmmfmdoglkalGreatDoorShx
import Derived.Test.YtjpcmmfmdoglkalGreatDoorRnb
import Derived.Lib.SlBytesConst
namespace Go.Proofs.YtjpcmmfmdoglkalGreatDoor
open Go.ChangeShapes Go.WideShapes Go.ChangeAt Go.RowKit
def escL : List Nat := [48, 97, 98, 116, 9, 110, 118, 102, 114, 101, 32, 34, 47, 92, 78, 95, 76, 80]
def escs : Array Value := #[.int .u8 48, .int .u8 97, .int .u8 98, .int .u8 116, .int .u8 9, .int .u8 110, .int .u8 118, .int .u8 102, .int .u8 114, .int .u8 101, .int .u8 32, .int .u8 34, .int .u8 47, .int .u8 92, .int .u8 78, .int .u8 95, .int .u8 76, .int .u8 80]
theorem escs_at : ∀ {i n : Nat}, escL[i]? = some n → escs[i]? = some (.int .u8 (n : Int)) := by
  intro i n h
  have hi : i < 18 := by
    rcases Nat.lt_or_ge i 18 with h' | h'
    · exact h'
    · rw [List.getElem?_eq_none (by show 18 ≤ i; exact h')] at h; cases h
  have hw : i = 0 ∨ i = 1 ∨ i = 2 ∨ i = 3 ∨ i = 4 ∨ i = 5 ∨ i = 6 ∨ i = 7 ∨ i = 8 ∨ i = 9 ∨ i = 10 ∨ i = 11 ∨ i = 12 ∨ i = 13 ∨ i = 14 ∨ i = 15 ∨ i = 16 ∨ i = 17 := by omega
  rcases hw with rfl | rfl | rfl | rfl | rfl | rfl | rfl | rfl | rfl | rfl | rfl | rfl | rfl | rfl | rfl | rfl | rfl | rfl <;> (injection h with h; subst h; rfl)
/-- What a byte behind a backslash stands for. -/
def escT (x : Nat) : Option Nat := if x = 48 then some 0 else if x = 97 then some 7 else if x = 98 then some 8 else if x = 116 then some 9 else if x = 9 then some 9 else if x = 110 then some 10 else if x = 118 then some 11 else if x = 102 then some 12 else if x = 114 then some 13 else if x = 101 then some 27 else if x = 32 then some 32 else if x = 34 then some 34 else if x = 47 then some 47 else if x = 92 then some 92 else if x = 78 then some 133 else if x = 95 then some 160 else if x = 76 then some 8232 else if x = 80 then some 8233 else none
/-- How many digits come behind it. -/
def escN (x : Nat) : Nat := if x = 120 then 2 else if x = 117 then 4 else if x = 85 then 8 else 0
def escAt (s : ByteArray) (k : Nat) : ByteArray × Nat :=
  if s.size ≤ k + 1 ∨ bt s k ≠ 92 then (ByteArray.empty, 0)
  else match escT (bt s (k + 1)) with
    | some r => (rb (r : Int), k + 2)
    | none => if escN (bt s (k + 1)) = 0 then (ByteArray.empty, 0)
      else if rb (hexGo s (escN (bt s (k + 1))) (k + 2) 0) = ByteArray.empty then (ByteArray.empty, 0)
      else (rb (hexGo s (escN (bt s (k + 1))) (k + 2) 0), k + 2 + escN (bt s (k + 1)))
theorem escT_none {x : Nat} (h : ∀ (j n : Nat), escL[j]? = some n → x ≠ n) : escT x = none := by
  unfold escT
  rw [if_neg (h 0 _ rfl), if_neg (h 1 _ rfl), if_neg (h 2 _ rfl), if_neg (h 3 _ rfl), if_neg (h 4 _ rfl), if_neg (h 5 _ rfl), if_neg (h 6 _ rfl), if_neg (h 7 _ rfl), if_neg (h 8 _ rfl), if_neg (h 9 _ rfl), if_neg (h 10 _ rfl), if_neg (h 11 _ rfl), if_neg (h 12 _ rfl), if_neg (h 13 _ rfl), if_neg (h 14 _ rfl), if_neg (h 15 _ rfl), if_neg (h 16 _ rfl), if_neg (h 17 _ rfl)]
theorem rb_any (r : Int) (w : World) : Calls Tryz.prog 118 #[.int .i64 r] w fun e w' => e = .returned (.string (rb r)) ∧ Below w.heap.size w w' :=
  (spec_rb r w).mono fun e w' ⟨a, b⟩ => ⟨a, by
    rcases b with rfl | ⟨xs, rfl⟩
    · exact Below.refl _ _
    · exact (Below.refl _ w).alloc (Nat.le_refl _) _⟩
theorem empty_l : (ByteArray.empty.toList == ([] : List UInt8)) = true := by rw [ByteArray.toList_eq]; rfl
theorem nonempty_l {t : ByteArray} (h : t ≠ ByteArray.empty) : (t.toList == []) = false := by
  rw [beq_eq_false_iff_ne]
  intro e
  apply h
  rw [ByteArray.toList_eq] at e
  apply ba_ext'
  apply Array.ext'
  rw [e]; rfl
set_option maxRecDepth 100000 in
set_option maxHeartbeats 16000000 in
theorem spec_escapeAt (s : ByteArray) (p : Int) (w : World) (hs : s.size ≤ 1048576) (T : ByteArray) (E : Nat) (hr : escAt s (cl s.size p) = (T, E)) :
    Calls Tryz.prog 69 #[.string s, .int .i64 p] w fun e w' => e = .returned (.tuple #[.string T, .int .i64 (E : Int)]) ∧ Below w.heap.size w w' := by
  have hcl := cl_le s.size p
  have hmx : s.size ≤ mx := by unfold mx; omega
  have HR : Hid (escAt s (cl s.size p) = (T, E)) := hr
  clear hr
  go_enter Tryz.func69, Tryz.ntmps69
  go_wp2_with fail
  refine (l01P_any _ _ _ hmx).mono ?_
  rintro e w ⟨rfl, rfl⟩
  generalize cl s.size p = k at *
  by_cases hlt : k + 1 < s.size
  · have hl1 : ¬ (s.size : Int) ≤ (k : Int) + 1 := by omega
    have hl1n : ¬ s.size ≤ k + 1 := by omega
    have hk : k < s.size := by omega
    by_cases hq : (s[k]'hk).toNat = 92
    · have hq' : (((s[k]'hk).toNat : Int) != 92) = false := by rw [hq]; rfl
      have HQ : Hid (bt s k = 92) := by show bt s k = 92; rw [← bt_get s k hk]; exact hq
      have HBT : Hid ((s[k + 1]'hlt).toNat = bt s (k + 1)) := bt_get s (k + 1) hlt
      clear hq
      have hblk : (w.alloc (.cells escs 5 (18, 19))).heap[w.heap.size]? = some (.cells escs 5 (18, 19)) := by
        show (w.heap.push _)[w.heap.size]? = _
        simp
      have HBLK : Hid ((w.alloc (.cells escs 5 (18, 19))).heap[w.heap.size]? = some (.cells escs 5 (18, 19))) := hblk
      have HAL : Hid (Below w.heap.size w (w.alloc (.cells escs 5 (18, 19)))) := (Below.refl _ w).alloc (Nat.le_refl _) _
      clear hblk
      have hcv := fun (w : World) (C : Array Value) (n c : Nat) => Lib.run_convert_bytes_const (P := Tryz.prog) w 89 5 C n c Tryz.underlying89 Tryz.underlying5
      go_wp2_with fail
      clear hcv
      have hwb : w.alloc (Obj.cells #[Value.int IntKind.u8 48, Value.int IntKind.u8 97, Value.int IntKind.u8 98, Value.int IntKind.u8 116, Value.int IntKind.u8 9, Value.int IntKind.u8 110, Value.int IntKind.u8 118, Value.int IntKind.u8 102, Value.int IntKind.u8 114, Value.int IntKind.u8 101, Value.int IntKind.u8 32, Value.int IntKind.u8 34, Value.int IntKind.u8 47, Value.int IntKind.u8 92, Value.int IntKind.u8 78, Value.int IntKind.u8 95, Value.int IntKind.u8 76, Value.int IntKind.u8 80] 5 (18, 19)) = w.alloc (.cells escs 5 (18, 19)) := rfl
      rw [hwb]
      clear hwb
      generalize w.alloc (.cells escs 5 (18, 19)) = wA at *
      go_loop [33] (fun iv => ∃ i : Nat, i ≤ 18 ∧ iv = .int .i64 i ∧ Hid (∀ j n, j < i → escL[j]? = some n → bt s (k + 1) ≠ n)) (fun iv => 18 - (intOf iv).toNat)
      case atStart => exact ⟨0, by omega, rfl, fun j n hj => by omega⟩
      case round =>
        obtain ⟨i, hi, rfl, HN⟩ := hrel
        by_cases hil : i < 18
        · obtain ⟨m, hm⟩ : ∃ m, escL[i]? = some m := ⟨_, List.getElem?_eq_getElem (by show i < 18; exact hil)⟩
          have c1 : wA.cell? ⟨w.heap.size, i, none⟩ = some (.int .u8 (m : Int)) := by
            have h := HBLK.out
            have h2 := escs_at hm
            simp [World.cell?, h, h2]
          have hil' : (i : Int) < 18 := by omega
          by_cases hc : (s[k + 1]'hlt).toNat = m
          · have hw : i = 0 ∨ i = 1 ∨ i = 2 ∨ i = 3 ∨ i = 4 ∨ i = 5 ∨ i = 6 ∨ i = 7 ∨ i = 8 ∨ i = 9 ∨ i = 10 ∨ i = 11 ∨ i = 12 ∨ i = 13 ∨ i = 14 ∨ i = 15 ∨ i = 16 ∨ i = 17 := by omega
            clear hi hil hil' HN
            rcases hw with rfl | rfl | rfl | rfl | rfl | rfl | rfl | rfl | rfl | rfl | rfl | rfl | rfl | rfl | rfl | rfl | rfl | rfl
            · obtain rfl : 48 = m := by injection hm with hm
              have HO : Hid ((rb (0 : Int), k + 2) = (T, E)) := by
                show _ = (T, E)
                rw [← HR.out]; unfold escAt
                rw [if_neg (by rw [HQ.out]; omega), ← HBT.out, hc]
                rfl
              have hc' : (((s[k + 1]'hlt).toNat : Int) == 48) = true := by rw [hc]; rfl
              clear hc hm HR
              go_wp2_with fail
              refine (rb_any _ _).mono ?_
              rintro e w2 ⟨rfl, hb2⟩
              go_wp2_with fail
              go_ret2
              have e0 := HO.out
              injection e0 with e1 e2
              subst e1
              subst e2
              have hB2 : Below w.heap.size w wA := HAL.out
              exact ⟨by first | rfl | simp, (hB2.alloc hB2.size _).trans (hb2.mono (by have := hB2.size; simp; omega))⟩
            · obtain rfl : 97 = m := by injection hm with hm
              have HO : Hid ((rb (7 : Int), k + 2) = (T, E)) := by
                show _ = (T, E)
                rw [← HR.out]; unfold escAt
                rw [if_neg (by rw [HQ.out]; omega), ← HBT.out, hc]
                rfl
              have hc' : (((s[k + 1]'hlt).toNat : Int) == 97) = true := by rw [hc]; rfl
              clear hc hm HR
              go_wp2_with fail
              refine (rb_any _ _).mono ?_
              rintro e w2 ⟨rfl, hb2⟩
              go_wp2_with fail
              go_ret2
              have e0 := HO.out
              injection e0 with e1 e2
              subst e1
              subst e2
              have hB2 : Below w.heap.size w wA := HAL.out
              exact ⟨by first | rfl | simp, (hB2.alloc hB2.size _).trans (hb2.mono (by have := hB2.size; simp; omega))⟩
            · obtain rfl : 98 = m := by injection hm with hm
              have HO : Hid ((rb (8 : Int), k + 2) = (T, E)) := by
                show _ = (T, E)
                rw [← HR.out]; unfold escAt
                rw [if_neg (by rw [HQ.out]; omega), ← HBT.out, hc]
                rfl
              have hc' : (((s[k + 1]'hlt).toNat : Int) == 98) = true := by rw [hc]; rfl
              clear hc hm HR
              go_wp2_with fail
              refine (rb_any _ _).mono ?_
              rintro e w2 ⟨rfl, hb2⟩
              go_wp2_with fail
              go_ret2
              have e0 := HO.out
              injection e0 with e1 e2
              subst e1
              subst e2
              have hB2 : Below w.heap.size w wA := HAL.out
              exact ⟨by first | rfl | simp, (hB2.alloc hB2.size _).trans (hb2.mono (by have := hB2.size; simp; omega))⟩
            · obtain rfl : 116 = m := by injection hm with hm
              have HO : Hid ((rb (9 : Int), k + 2) = (T, E)) := by
                show _ = (T, E)
                rw [← HR.out]; unfold escAt
                rw [if_neg (by rw [HQ.out]; omega), ← HBT.out, hc]
                rfl
              have hc' : (((s[k + 1]'hlt).toNat : Int) == 116) = true := by rw [hc]; rfl
              clear hc hm HR
              go_wp2_with fail
              refine (rb_any _ _).mono ?_
              rintro e w2 ⟨rfl, hb2⟩
              go_wp2_with fail
              go_ret2
              have e0 := HO.out
              injection e0 with e1 e2
              subst e1
              subst e2
              have hB2 : Below w.heap.size w wA := HAL.out
              exact ⟨by first | rfl | simp, (hB2.alloc hB2.size _).trans (hb2.mono (by have := hB2.size; simp; omega))⟩
            · obtain rfl : 9 = m := by injection hm with hm
              have HO : Hid ((rb (9 : Int), k + 2) = (T, E)) := by
                show _ = (T, E)
                rw [← HR.out]; unfold escAt
                rw [if_neg (by rw [HQ.out]; omega), ← HBT.out, hc]
                rfl
              have hc' : (((s[k + 1]'hlt).toNat : Int) == 9) = true := by rw [hc]; rfl
              clear hc hm HR
              go_wp2_with fail
              refine (rb_any _ _).mono ?_
              rintro e w2 ⟨rfl, hb2⟩
              go_wp2_with fail
              go_ret2
              have e0 := HO.out
              injection e0 with e1 e2
              subst e1
              subst e2
              have hB2 : Below w.heap.size w wA := HAL.out
              exact ⟨by first | rfl | simp, (hB2.alloc hB2.size _).trans (hb2.mono (by have := hB2.size; simp; omega))⟩
            · obtain rfl : 110 = m := by injection hm with hm
              have HO : Hid ((rb (10 : Int), k + 2) = (T, E)) := by
                show _ = (T, E)
                rw [← HR.out]; unfold escAt
                rw [if_neg (by rw [HQ.out]; omega), ← HBT.out, hc]
                rfl
              have hc' : (((s[k + 1]'hlt).toNat : Int) == 110) = true := by rw [hc]; rfl
              clear hc hm HR
              go_wp2_with fail
              refine (rb_any _ _).mono ?_
              rintro e w2 ⟨rfl, hb2⟩
              go_wp2_with fail
              go_ret2
              have e0 := HO.out
              injection e0 with e1 e2
              subst e1
              subst e2
              have hB2 : Below w.heap.size w wA := HAL.out
              exact ⟨by first | rfl | simp, (hB2.alloc hB2.size _).trans (hb2.mono (by have := hB2.size; simp; omega))⟩
            · obtain rfl : 118 = m := by injection hm with hm
              have HO : Hid ((rb (11 : Int), k + 2) = (T, E)) := by
                show _ = (T, E)
                rw [← HR.out]; unfold escAt
                rw [if_neg (by rw [HQ.out]; omega), ← HBT.out, hc]
                rfl
              have hc' : (((s[k + 1]'hlt).toNat : Int) == 118) = true := by rw [hc]; rfl
              clear hc hm HR
              go_wp2_with fail
              refine (rb_any _ _).mono ?_
              rintro e w2 ⟨rfl, hb2⟩
              go_wp2_with fail
              go_ret2
              have e0 := HO.out
              injection e0 with e1 e2
              subst e1
              subst e2
              have hB2 : Below w.heap.size w wA := HAL.out
              exact ⟨by first | rfl | simp, (hB2.alloc hB2.size _).trans (hb2.mono (by have := hB2.size; simp; omega))⟩
            · obtain rfl : 102 = m := by injection hm with hm
              have HO : Hid ((rb (12 : Int), k + 2) = (T, E)) := by
                show _ = (T, E)
                rw [← HR.out]; unfold escAt
                rw [if_neg (by rw [HQ.out]; omega), ← HBT.out, hc]
                rfl
              have hc' : (((s[k + 1]'hlt).toNat : Int) == 102) = true := by rw [hc]; rfl
              clear hc hm HR
              go_wp2_with fail
              refine (rb_any _ _).mono ?_
              rintro e w2 ⟨rfl, hb2⟩
              go_wp2_with fail
              go_ret2
              have e0 := HO.out
              injection e0 with e1 e2
              subst e1
              subst e2
              have hB2 : Below w.heap.size w wA := HAL.out
              exact ⟨by first | rfl | simp, (hB2.alloc hB2.size _).trans (hb2.mono (by have := hB2.size; simp; omega))⟩
            · obtain rfl : 114 = m := by injection hm with hm
              have HO : Hid ((rb (13 : Int), k + 2) = (T, E)) := by
                show _ = (T, E)
                rw [← HR.out]; unfold escAt
                rw [if_neg (by rw [HQ.out]; omega), ← HBT.out, hc]
                rfl
              have hc' : (((s[k + 1]'hlt).toNat : Int) == 114) = true := by rw [hc]; rfl
              clear hc hm HR
              go_wp2_with fail
              refine (rb_any _ _).mono ?_
              rintro e w2 ⟨rfl, hb2⟩
              go_wp2_with fail
              go_ret2
              have e0 := HO.out
              injection e0 with e1 e2
              subst e1
              subst e2
              have hB2 : Below w.heap.size w wA := HAL.out
              exact ⟨by first | rfl | simp, (hB2.alloc hB2.size _).trans (hb2.mono (by have := hB2.size; simp; omega))⟩
            · obtain rfl : 101 = m := by injection hm with hm
              have HO : Hid ((rb (27 : Int), k + 2) = (T, E)) := by
                show _ = (T, E)
                rw [← HR.out]; unfold escAt
                rw [if_neg (by rw [HQ.out]; omega), ← HBT.out, hc]
                rfl
              have hc' : (((s[k + 1]'hlt).toNat : Int) == 101) = true := by rw [hc]; rfl
              clear hc hm HR
              go_wp2_with fail
              refine (rb_any _ _).mono ?_
              rintro e w2 ⟨rfl, hb2⟩
              go_wp2_with fail
              go_ret2
              have e0 := HO.out
              injection e0 with e1 e2
              subst e1
              subst e2
              have hB2 : Below w.heap.size w wA := HAL.out
              exact ⟨by first | rfl | simp, (hB2.alloc hB2.size _).trans (hb2.mono (by have := hB2.size; simp; omega))⟩
            · obtain rfl : 32 = m := by injection hm with hm
              have HO : Hid ((rb (32 : Int), k + 2) = (T, E)) := by
                show _ = (T, E)
                rw [← HR.out]; unfold escAt
                rw [if_neg (by rw [HQ.out]; omega), ← HBT.out, hc]
                rfl
              have hc' : (((s[k + 1]'hlt).toNat : Int) == 32) = true := by rw [hc]; rfl
              clear hc hm HR
              go_wp2_with fail
              refine (rb_any _ _).mono ?_
              rintro e w2 ⟨rfl, hb2⟩
              go_wp2_with fail
              go_ret2
              have e0 := HO.out
              injection e0 with e1 e2
              subst e1
              subst e2
              have hB2 : Below w.heap.size w wA := HAL.out
              exact ⟨by first | rfl | simp, (hB2.alloc hB2.size _).trans (hb2.mono (by have := hB2.size; simp; omega))⟩
            · obtain rfl : 34 = m := by injection hm with hm
              have HO : Hid ((rb (34 : Int), k + 2) = (T, E)) := by
                show _ = (T, E)
                rw [← HR.out]; unfold escAt
                rw [if_neg (by rw [HQ.out]; omega), ← HBT.out, hc]
                rfl
              have hc' : (((s[k + 1]'hlt).toNat : Int) == 34) = true := by rw [hc]; rfl
              clear hc hm HR
              go_wp2_with fail
              refine (rb_any _ _).mono ?_
              rintro e w2 ⟨rfl, hb2⟩
              go_wp2_with fail
              go_ret2
              have e0 := HO.out
              injection e0 with e1 e2
              subst e1
              subst e2
              have hB2 : Below w.heap.size w wA := HAL.out
              exact ⟨by first | rfl | simp, (hB2.alloc hB2.size _).trans (hb2.mono (by have := hB2.size; simp; omega))⟩
            · obtain rfl : 47 = m := by injection hm with hm
              have HO : Hid ((rb (47 : Int), k + 2) = (T, E)) := by
                show _ = (T, E)
                rw [← HR.out]; unfold escAt
                rw [if_neg (by rw [HQ.out]; omega), ← HBT.out, hc]
                rfl
              have hc' : (((s[k + 1]'hlt).toNat : Int) == 47) = true := by rw [hc]; rfl
              clear hc hm HR
              go_wp2_with fail
              refine (rb_any _ _).mono ?_
              rintro e w2 ⟨rfl, hb2⟩
              go_wp2_with fail
              go_ret2
              have e0 := HO.out
              injection e0 with e1 e2
              subst e1
              subst e2
              have hB2 : Below w.heap.size w wA := HAL.out
              exact ⟨by first | rfl | simp, (hB2.alloc hB2.size _).trans (hb2.mono (by have := hB2.size; simp; omega))⟩
            · obtain rfl : 92 = m := by injection hm with hm
              have HO : Hid ((rb (92 : Int), k + 2) = (T, E)) := by
                show _ = (T, E)
                rw [← HR.out]; unfold escAt
                rw [if_neg (by rw [HQ.out]; omega), ← HBT.out, hc]
                rfl
              have hc' : (((s[k + 1]'hlt).toNat : Int) == 92) = true := by rw [hc]; rfl
              clear hc hm HR
              go_wp2_with fail
              refine (rb_any _ _).mono ?_
              rintro e w2 ⟨rfl, hb2⟩
              go_wp2_with fail
              go_ret2
              have e0 := HO.out
              injection e0 with e1 e2
              subst e1
              subst e2
              have hB2 : Below w.heap.size w wA := HAL.out
              exact ⟨by first | rfl | simp, (hB2.alloc hB2.size _).trans (hb2.mono (by have := hB2.size; simp; omega))⟩
            · obtain rfl : 78 = m := by injection hm with hm
              have HO : Hid ((rb (133 : Int), k + 2) = (T, E)) := by
                show _ = (T, E)
                rw [← HR.out]; unfold escAt
                rw [if_neg (by rw [HQ.out]; omega), ← HBT.out, hc]
                rfl
              have hc' : (((s[k + 1]'hlt).toNat : Int) == 78) = true := by rw [hc]; rfl
              clear hc hm HR
              go_wp2_with fail
              refine (rb_any _ _).mono ?_
              rintro e w2 ⟨rfl, hb2⟩
              go_wp2_with fail
              go_ret2
              have e0 := HO.out
              injection e0 with e1 e2
              subst e1
              subst e2
              have hB2 : Below w.heap.size w wA := HAL.out
              exact ⟨by first | rfl | simp, (hB2.alloc hB2.size _).trans (hb2.mono (by have := hB2.size; simp; omega))⟩
            · obtain rfl : 95 = m := by injection hm with hm
              have HO : Hid ((rb (160 : Int), k + 2) = (T, E)) := by
                show _ = (T, E)
                rw [← HR.out]; unfold escAt
                rw [if_neg (by rw [HQ.out]; omega), ← HBT.out, hc]
                rfl
              have hc' : (((s[k + 1]'hlt).toNat : Int) == 95) = true := by rw [hc]; rfl
              clear hc hm HR
              go_wp2_with fail
              refine (rb_any _ _).mono ?_
              rintro e w2 ⟨rfl, hb2⟩
              go_wp2_with fail
              go_ret2
              have e0 := HO.out
              injection e0 with e1 e2
              subst e1
              subst e2
              have hB2 : Below w.heap.size w wA := HAL.out
              exact ⟨by first | rfl | simp, (hB2.alloc hB2.size _).trans (hb2.mono (by have := hB2.size; simp; omega))⟩
            · obtain rfl : 76 = m := by injection hm with hm
              have HO : Hid ((rb (8232 : Int), k + 2) = (T, E)) := by
                show _ = (T, E)
                rw [← HR.out]; unfold escAt
                rw [if_neg (by rw [HQ.out]; omega), ← HBT.out, hc]
                rfl
              have hc' : (((s[k + 1]'hlt).toNat : Int) == 76) = true := by rw [hc]; rfl
              clear hc hm HR
              go_wp2_with fail
              refine (rb_any _ _).mono ?_
              rintro e w2 ⟨rfl, hb2⟩
              go_wp2_with fail
              go_ret2
              have e0 := HO.out
              injection e0 with e1 e2
              subst e1
              subst e2
              have hB2 : Below w.heap.size w wA := HAL.out
              exact ⟨by first | rfl | simp, (hB2.alloc hB2.size _).trans (hb2.mono (by have := hB2.size; simp; omega))⟩
            · obtain rfl : 80 = m := by injection hm with hm
              have HO : Hid ((rb (8233 : Int), k + 2) = (T, E)) := by
                show _ = (T, E)
                rw [← HR.out]; unfold escAt
                rw [if_neg (by rw [HQ.out]; omega), ← HBT.out, hc]
                rfl
              have hc' : (((s[k + 1]'hlt).toNat : Int) == 80) = true := by rw [hc]; rfl
              clear hc hm HR
              go_wp2_with fail
              refine (rb_any _ _).mono ?_
              rintro e w2 ⟨rfl, hb2⟩
              go_wp2_with fail
              go_ret2
              have e0 := HO.out
              injection e0 with e1 e2
              subst e1
              subst e2
              have hB2 : Below w.heap.size w wA := HAL.out
              exact ⟨by first | rfl | simp, (hB2.alloc hB2.size _).trans (hb2.mono (by have := hB2.size; simp; omega))⟩
          · have HN2 : Hid (∀ j n, j < i + 1 → escL[j]? = some n → bt s (k + 1) ≠ n) := by
              show ∀ j n, j < i + 1 → escL[j]? = some n → bt s (k + 1) ≠ n
              intro j n hj hn
              rcases Nat.lt_or_eq_of_le (Nat.le_of_lt_succ hj) with h | h
              · exact HN.out j n h hn
              · subst h
                rw [hm] at hn
                injection hn with hn
                rw [← HBT.out, ← hn]
                exact hc
            have hc' : (((s[k + 1]'hlt).toNat : Int) == (m : Int)) = false := by rw [beq_eq_false_iff_ne]; omega
            clear hc hm HN
            go_wp2_with fail
            go_round
            case rel => exact ⟨i + 1, hil, by go_num, HN2⟩
            case measure => simp [intOf]; omega
        · have hil' : ¬ (i : Int) < 18 := by omega
          have HNO : Hid (escT (bt s (k + 1)) = none) := escT_none (fun j n hj => HN.out j n (by
            have : j < 18 := by
              rcases Nat.lt_or_ge j 18 with h | h
              · exact h
              · rw [List.getElem?_eq_none (by show 18 ≤ j; exact h)] at hj; cases hj
            omega) hj)
          have HR2 : Hid ((if escN (bt s (k + 1)) = 0 then (ByteArray.empty, 0) else if rb (hexGo s (escN (bt s (k + 1))) (k + 2) 0) = ByteArray.empty then (ByteArray.empty, 0) else (rb (hexGo s (escN (bt s (k + 1))) (k + 2) 0), k + 2 + escN (bt s (k + 1)))) = (T, E)) := by
            have h0 := HR.out
            unfold escAt at h0
            rw [if_neg (by rw [HQ.out]; omega), HNO.out] at h0
            exact h0
          clear HN HR HNO HBLK
          have hway : (s[k + 1]'hlt).toNat = 120 ∨ (s[k + 1]'hlt).toNat = 117 ∨ (s[k + 1]'hlt).toNat = 85 ∨ ((s[k + 1]'hlt).toNat ≠ 120 ∧ (s[k + 1]'hlt).toNat ≠ 117 ∧ (s[k + 1]'hlt).toNat ≠ 85) := by omega
          rcases hway with h | h | h | ⟨h, h2, h3⟩
          · have a120 : (((s[k + 1]'hlt).toNat : Int) == 120) = true := by rw [h]; rfl
            have hN : escN (bt s (k + 1)) = 2 := by rw [← HBT.out, h]; rfl
            have h0 := HR2.out
            rw [hN, if_neg (by decide)] at h0
            have cH := spec_hex s (k + 2) 2 wA hs (by omega) (by omega)
            obtain ⟨Z, hZ⟩ : ∃ Z, hexGo s 2 (k + 2) 0 = Z := ⟨_, rfl⟩
            rw [hZ] at cH h0
            have hk2 : ((k + 2 : Nat) : Int) = (k : Int) + 2 := by omega
            rw [hk2] at cH
            have HH : Hid ((if rb Z = ByteArray.empty then (ByteArray.empty, 0) else (rb Z, k + 2 + 2)) = (T, E)) := h0
            clear h h0 hN hZ HR2 hk2
            obtain ⟨B, hB⟩ : ∃ B, rb Z = B := ⟨_, rfl⟩
            have cB := rb_any Z wA
            rw [hB] at cB HH
            clear hB
            by_cases hB0 : B = ByteArray.empty
            · have HO : Hid ((ByteArray.empty, 0) = (T, E)) := by
                have h1 := HH.out
                rw [if_pos hB0] at h1
                exact h1
              have hE : (B.toList == []) = true := by rw [hB0]; exact empty_l
              clear hB0 HH
              go_wp2_with fail
              refine cH.mono ?_
              rintro e wz ⟨rfl, rfl⟩
              clear cH
              go_wp2_with fail
              refine cB.mono ?_
              rintro e w3 ⟨rfl, hb3⟩
              clear cB
              go_wp2_with fail
              go_ret2
              have e0 := HO.out
              injection e0 with e1 e2
              subst e1
              subst e2
              exact ⟨by first | rfl | simp, HAL.out.trans (hb3.mono HAL.out.size)⟩
            · have HO : Hid ((B, k + 2 + 2) = (T, E)) := by
                have h1 := HH.out
                rw [if_neg hB0] at h1
                exact h1
              have hE := nonempty_l hB0
              clear hB0 HH
              go_wp2_with fail
              refine cH.mono ?_
              rintro e wz ⟨rfl, rfl⟩
              clear cH
              go_wp2_with fail
              refine cB.mono ?_
              rintro e w3 ⟨rfl, hb3⟩
              clear cB
              go_wp2_with fail
              go_ret2
              have e0 := HO.out
              injection e0 with e1 e2
              subst e1
              subst e2
              refine ⟨?_, HAL.out.trans (hb3.mono HAL.out.size)⟩
              first | rfl | (congr 5; omega) | (simp; omega) | simp
          · have a120 : (((s[k + 1]'hlt).toNat : Int) == 120) = false := by rw [h]; rfl
            have a117 : (((s[k + 1]'hlt).toNat : Int) == 117) = true := by rw [h]; rfl
            have hN : escN (bt s (k + 1)) = 4 := by rw [← HBT.out, h]; rfl
            have h0 := HR2.out
            rw [hN, if_neg (by decide)] at h0
            have cH := spec_hex s (k + 2) 4 wA hs (by omega) (by omega)
            obtain ⟨Z, hZ⟩ : ∃ Z, hexGo s 4 (k + 2) 0 = Z := ⟨_, rfl⟩
            rw [hZ] at cH h0
            have hk2 : ((k + 2 : Nat) : Int) = (k : Int) + 2 := by omega
            rw [hk2] at cH
            have HH : Hid ((if rb Z = ByteArray.empty then (ByteArray.empty, 0) else (rb Z, k + 2 + 4)) = (T, E)) := h0
            clear h h0 hN hZ HR2 hk2
            obtain ⟨B, hB⟩ : ∃ B, rb Z = B := ⟨_, rfl⟩
            have cB := rb_any Z wA
            rw [hB] at cB HH
            clear hB
            by_cases hB0 : B = ByteArray.empty
            · have HO : Hid ((ByteArray.empty, 0) = (T, E)) := by
                have h1 := HH.out
                rw [if_pos hB0] at h1
                exact h1
              have hE : (B.toList == []) = true := by rw [hB0]; exact empty_l
              clear hB0 HH
              go_wp2_with fail
              refine cH.mono ?_
              rintro e wz ⟨rfl, rfl⟩
              clear cH
              go_wp2_with fail
              refine cB.mono ?_
              rintro e w3 ⟨rfl, hb3⟩
              clear cB
              go_wp2_with fail
              go_ret2
              have e0 := HO.out
              injection e0 with e1 e2
              subst e1
              subst e2
              exact ⟨by first | rfl | simp, HAL.out.trans (hb3.mono HAL.out.size)⟩
            · have HO : Hid ((B, k + 2 + 4) = (T, E)) := by
                have h1 := HH.out
                rw [if_neg hB0] at h1
                exact h1
              have hE := nonempty_l hB0
              clear hB0 HH
              go_wp2_with fail
              refine cH.mono ?_
              rintro e wz ⟨rfl, rfl⟩
              clear cH
              go_wp2_with fail
              refine cB.mono ?_
              rintro e w3 ⟨rfl, hb3⟩
              clear cB
              go_wp2_with fail
              go_ret2
              have e0 := HO.out
              injection e0 with e1 e2
              subst e1
              subst e2
              refine ⟨?_, HAL.out.trans (hb3.mono HAL.out.size)⟩
              first | rfl | (congr 5; omega) | (simp; omega) | simp
          · have a120 : (((s[k + 1]'hlt).toNat : Int) == 120) = false := by rw [h]; rfl
            have a117 : (((s[k + 1]'hlt).toNat : Int) == 117) = false := by rw [h]; rfl
            have a85 : (((s[k + 1]'hlt).toNat : Int) == 85) = true := by rw [h]; rfl
            have hN : escN (bt s (k + 1)) = 8 := by rw [← HBT.out, h]; rfl
            have h0 := HR2.out
            rw [hN, if_neg (by decide)] at h0
            have cH := spec_hex s (k + 2) 8 wA hs (by omega) (by omega)
            obtain ⟨Z, hZ⟩ : ∃ Z, hexGo s 8 (k + 2) 0 = Z := ⟨_, rfl⟩
            rw [hZ] at cH h0
            have hk2 : ((k + 2 : Nat) : Int) = (k : Int) + 2 := by omega
            rw [hk2] at cH
            have HH : Hid ((if rb Z = ByteArray.empty then (ByteArray.empty, 0) else (rb Z, k + 2 + 8)) = (T, E)) := h0
            clear h h0 hN hZ HR2 hk2
            obtain ⟨B, hB⟩ : ∃ B, rb Z = B := ⟨_, rfl⟩
            have cB := rb_any Z wA
            rw [hB] at cB HH
            clear hB
            by_cases hB0 : B = ByteArray.empty
            · have HO : Hid ((ByteArray.empty, 0) = (T, E)) := by
                have h1 := HH.out
                rw [if_pos hB0] at h1
                exact h1
              have hE : (B.toList == []) = true := by rw [hB0]; exact empty_l
              clear hB0 HH
              go_wp2_with fail
              refine cH.mono ?_
              rintro e wz ⟨rfl, rfl⟩
              clear cH
              go_wp2_with fail
              refine cB.mono ?_
              rintro e w3 ⟨rfl, hb3⟩
              clear cB
              go_wp2_with fail
              go_ret2
              have e0 := HO.out
              injection e0 with e1 e2
              subst e1
              subst e2
              exact ⟨by first | rfl | simp, HAL.out.trans (hb3.mono HAL.out.size)⟩
            · have HO : Hid ((B, k + 2 + 8) = (T, E)) := by
                have h1 := HH.out
                rw [if_neg hB0] at h1
                exact h1
              have hE := nonempty_l hB0
              clear hB0 HH
              go_wp2_with fail
              refine cH.mono ?_
              rintro e wz ⟨rfl, rfl⟩
              clear cH
              go_wp2_with fail
              refine cB.mono ?_
              rintro e w3 ⟨rfl, hb3⟩
              clear cB
              go_wp2_with fail
              go_ret2
              have e0 := HO.out
              injection e0 with e1 e2
              subst e1
              subst e2
              refine ⟨?_, HAL.out.trans (hb3.mono HAL.out.size)⟩
              first | rfl | (congr 5; omega) | (simp; omega) | simp
          · have a1 : (((s[k + 1]'hlt).toNat : Int) == 120) = false := by rw [beq_eq_false_iff_ne]; omega
            have a2 : (((s[k + 1]'hlt).toNat : Int) == 117) = false := by rw [beq_eq_false_iff_ne]; omega
            have a3 : (((s[k + 1]'hlt).toNat : Int) == 85) = false := by rw [beq_eq_false_iff_ne]; omega
            have HO : Hid ((ByteArray.empty, 0) = (T, E)) := by
              have h0 := HR2.out
              rw [if_pos (by rw [← HBT.out]; unfold escN; rw [if_neg h, if_neg h2, if_neg h3])] at h0
              exact h0
            clear h h2 h3 HR2
            go_wp2_with fail
            go_ret2
            have e0 := HO.out
            injection e0 with e1 e2
            subst e1
            subst e2
            exact ⟨by first | rfl | simp, HAL.out⟩
    · have hq' : (((s[k]'hk).toNat : Int) != 92) = true := by rw [bne_iff_ne]; omega
      have HO : Hid ((ByteArray.empty, 0) = (T, E)) := by
        show _ = (T, E)
        rw [← HR.out]; unfold escAt
        rw [if_pos (.inr (by rw [← bt_get s k hk]; exact hq))]
      clear hq HR
      go_wp2_with fail
      go_ret2
      have e0 := HO.out
      injection e0 with e1 e2
      subst e1
      subst e2
      exact ⟨by first | rfl | simp, Below.refl _ _⟩
  · have hl1 : (s.size : Int) ≤ (k : Int) + 1 := by omega
    have HO : Hid ((ByteArray.empty, 0) = (T, E)) := by
      show _ = (T, E)
      rw [← HR.out]; unfold escAt
      rw [if_pos (.inl (by omega))]
    clear HR
    go_wp2_with fail
    go_ret2
    have e0 := HO.out
    injection e0 with e1 e2
    subst e1
    subst e2
    exact ⟨by first | rfl | simp, Below.refl _ _⟩
end Go.Proofs.YtjpcmmfmdoglkalGreatDoor
