/- spec.Normal answers what NR says of the bytes, and changes nothing that was there. -/
import Derived.Test.YtgknoaabppmmiafDoorBytes
import Derived.Test.YtgknoaabppmmiafDoorNrm
import Derived.Test.YtgknoaabppmmiafDoorImplClean
namespace Go.Proofs.YtgknoaabppmmiafDoor
open Go.ChangeShapes Go.WideShapes Go.ChangeAt Go.RowKit
def nrmZ : List Int → List Int
  | [] => []
  | c :: r => if c = 13 then (if r.head? = some 10 then nrmZ r else 10 :: nrmZ r) else c :: nrmZ r
def stripZ (zs : List Int) : List Int := if zs.take 3 = [239, 187, 191] then zs.drop 3 else zs
theorem nrmZ_len : ∀ l : List Int, (nrmZ l).length ≤ l.length
  | [] => Nat.le_refl _
  | c :: r => by
    unfold nrmZ
    have := nrmZ_len r
    split
    · split
      · simp; omega
      · simp; omega
    · simp; omega
theorem stripZ_len (zs : List Int) : (stripZ zs).length ≤ zs.length := by
  unfold stripZ; split
  · simp
  · exact Nat.le_refl _
/-- The text that would come. -/
def tz (zs : List Int) : ByteArray := strOfNums (nrmZ (stripZ zs))
/-- What Normal answers. -/
def NR (zs : List Int) (s : ByteArray) (c : Int) : Prop :=
  if 60000 < zs.length then s = ⟨#[]⟩ ∧ c = 1
  else if clean (tz zs) < (tz zs).size then s = ⟨#[]⟩ ∧ c = 2 else s = tz zs ∧ c = 0
def NRPost (zs : List Int) (e : Ending) : Prop := ∃ s c, e = .returned (.tuple #[.string s, .int .i64 c]) ∧ NR zs s c
theorem drop_cons (zs : List Int) (k : Nat) (h : k < zs.length) : zs.drop k = zs.getD k 0 :: zs.drop (k + 1) := by
  rw [List.drop_eq_getElem_cons h]; simp [h]
theorem head_drop (zs : List Int) (k : Nat) : (zs.drop k).head? = zs[k]? := by rw [List.head?_drop]
theorem step_other (zs : List Int) (k : Nat) (h : k < zs.length) (hc : zs.getD k 0 ≠ 13) : nrmZ (zs.drop k) = zs.getD k 0 :: nrmZ (zs.drop (k + 1)) := by
  rw [drop_cons zs k h, nrmZ, if_neg hc]
theorem step_lone (zs : List Int) (k : Nat) (h : k < zs.length) (hc : zs.getD k 0 = 13) (hn : zs[k + 1]? ≠ some 10) : nrmZ (zs.drop k) = 10 :: nrmZ (zs.drop (k + 1)) := by
  rw [drop_cons zs k h, nrmZ, if_pos hc, if_neg (by rw [head_drop]; exact hn)]
theorem step_pair (zs : List Int) (k : Nat) (h : k < zs.length) (hc : zs.getD k 0 = 13) (hn : zs[k + 1]? = some 10) : nrmZ (zs.drop k) = nrmZ (zs.drop (k + 1)) := by
  rw [drop_cons zs k h, nrmZ, if_pos hc, if_pos (by rw [head_drop]; exact hn)]
theorem conv_own (w : World) (base : Nat) (v : Value) (acc : List Int) (h : w.ownsRow base 5 1 v acc.length (acc.map (Value.int .u8))) :
    (convert 22 9 v).run Tryd.prog w = .ok (.string (strOfNums acc)) w := by
  rcases h.2 with ⟨rfl, h0⟩ | ⟨g, cap, cur, rfl, _, hg, hn, _, hs, ht⟩
  · obtain rfl : acc = [] := List.length_eq_zero_iff.1 h0
    exact run_convert_bytes_nil w 22 5 Tryd.underlying22 Tryd.underlying5 0 0 9 Tryd.underlying9
  · refine run_convert_bytes_arg w 22 5 Tryd.underlying22 Tryd.underlying5 g 0 acc.length cap acc rfl (fun i hi => ?_) 9 Tryd.underlying9
    have := h.cells (g := g) rfl i (.int .u8 (acc.getD i 0)) (by simp [hi])
    by_cases e : i = 0
    · subst e; simpa [Addr.add] using this
    · simpa [Addr.add, e] using this
theorem own_snoc {w' : World} {base : Nat} {v' : Value} {acc : List Int} {z : Int} (h : w'.ownsRow base 5 1 v' (acc.length + 1) (acc.map (Value.int .u8) ++ [Value.int .u8 z])) :
    w'.ownsRow base 5 1 v' (acc ++ [z]).length ((acc ++ [z]).map (Value.int .u8)) := by
  simpa using h
theorem NR_big (zs : List Int) (h : 60000 < zs.length) : NR zs ⟨#[]⟩ 1 := by unfold NR; rw [if_pos h]; exact ⟨rfl, rfl⟩
theorem NR_bad (zs : List Int) (h : zs.length ≤ 60000) (hc : clean (tz zs) < (tz zs).size) : NR zs ⟨#[]⟩ 2 := by unfold NR; rw [if_neg (by omega), if_pos hc]; exact ⟨rfl, rfl⟩
theorem NR_good (zs : List Int) (h : zs.length ≤ 60000) (hc : ¬ clean (tz zs) < (tz zs).size) : NR zs (tz zs) 0 := by unfold NR; rw [if_neg (by omega), if_neg hc]; exact ⟨rfl, rfl⟩
theorem strip_not (zs : List Int) (h : ¬ zs.take 3 = [239, 187, 191]) : stripZ zs = zs.drop 0 := by unfold stripZ; rw [if_neg h]; rfl
theorem strip_yes (zs : List Int) (h : zs.take 3 = [239, 187, 191]) : stripZ zs = zs.drop 3 := by unfold stripZ; rw [if_pos h]
theorem take3 (zs : List Int) (h : 3 ≤ zs.length) : zs.take 3 = [zs.getD 0 0, zs.getD 1 0, zs.getD 2 0] := by
  match zs, h with
  | a :: b :: c :: r, _ => simp
theorem not_take3 (zs : List Int) (h : ¬ 3 ≤ zs.length) : ¬ zs.take 3 = [239, 187, 191] := by
  intro e
  have := congrArg List.length e
  simp at this; omega
theorem spec_clean_is (s : ByteArray) (n : Nat) (w : World) (hs : s.size ≤ maxLen) (h : clean s = n) :
    Calls Tryd.prog 14 #[.string s] w fun e w' => e = .returned (.int .i64 (n : Int)) ∧ Below w.heap.size w w' := by
  subst h; exact spec_clean s w hs
theorem tz_size (zs : List Int) : (tz zs).size ≤ zs.length := by
  unfold tz; rw [strOfNums_size]; exact Nat.le_trans (nrmZ_len _) (stripZ_len _)
theorem getD_next (zs : List Int) (k : Nat) (h : k + 1 < zs.length) : zs[k + 1]? = some (zs.getD (k + 1) 0) := by simp [h]
set_option maxHeartbeats 1000000 in
theorem spec_normal_big (v : Value) (zs : List Int) (w : World) (hS : Sl w v zs) (h : 60000 < zs.length) :
    Calls Tryd.prog 6 #[v] w fun e w' => NRPost zs e ∧ Below w.heap.size w w' := by
  have H : Hid (NR zs ⟨#[]⟩ 1) := NR_big zs h
  rcases hS with ⟨rfl, a, c, rfl⟩ | ⟨hne, b, off, c, rfl, hc⟩
  · simp at h
  · clear hc
    go_enter Tryd.func6, Tryd.ntmps6
    go_wp2_with fail
    go_ret2
    exact ⟨⟨_, _, rfl, H.out⟩, Below.refl _ _⟩
theorem one_cell (z : Int) : ∀ u ∈ [Value.int .u8 z], u.oneCell' = true := by intro u hu; simp at hu; subst hu; rfl
theorem acc_max {acc : List Int} {k n : Nat} (h : acc.length ≤ k) (hk : k ≤ n) (hn : (n : Int) ≤ 60000) : acc.length + 1 ≤ maxLen := by unfold maxLen; omega
theorem acc_bytes {acc : List Int} {k n : Nat} (h : acc.length ≤ k) (hk : k ≤ n) (hn : (n : Int) ≤ 60000) : (acc.length + 1) * 1 ≤ 140737488355328 := by omega
theorem size_alloc {w : World} {n : Nat} {o : Obj} (h : n ≤ w.heap.size) : n ≤ (w.alloc o).heap.size := by simp; omega
set_option maxHeartbeats 8000000 in
theorem spec_normal_A (zs : List Int) (b off c : Nat) (w : World) (HC : Hid (∀ i, i < zs.length → w.cell? ⟨b, off + i, none⟩ = some (.int .u8 (zs.getD i 0)))) (HH : Hid (zs.length ≤ 60000)) (h60 : (zs.length : Int) ≤ 60000)
    (h3 : (zs.length : Int) < 3) (HT : Hid (stripZ zs = zs.drop 0)) :
    Calls Tryd.prog 6 #[.slice (some ⟨b, off, none⟩) zs.length c] w fun e w' => NRPost zs e ∧ Below w.heap.size w w' := by
  obtain ⟨ti, hti, hz0, hz1, hz2⟩ := info_parts info5
  go_enter Tryd.func6, Tryd.ntmps6
  go_wp2_with fail
  go_loopw [4, 5] (fun iv ov wr => ∃ (k : Nat) (acc : List Int), k ≤ zs.length ∧ iv = .int .i64 k ∧ wr.ownsRow w.heap.size 5 1 ov acc.length (acc.map (Value.int .u8)) ∧ Hid (acc ++ nrmZ (zs.drop k) = nrmZ (stripZ zs)) ∧ acc.length ≤ k ∧ Below w.heap.size w wr) (fun iv _ _ => zs.length - (intOf iv).toNat)
  case atStart => exact ⟨0, [], Nat.zero_le _, rfl, World.ownsRow_made w #[] 0 (Nat.le_refl _) (by unfold maxLen; omega) rfl, by show [] ++ nrmZ (zs.drop 0) = nrmZ (stripZ zs); rw [HT.out]; rfl, by simp, (Below.refl _ _).alloc (Nat.le_refl _) _⟩
  case round =>
    obtain ⟨k, acc, hk, rfl, hown, HA, hak, hb⟩ := hrel
    by_cases hlt : k < zs.length
    · have hlt' : (k : Int) < (zs.length : Int) := by omega
      have hcs : wr.cell? ⟨b, off + k, none⟩ = some (.int .u8 (zs.getD k 0)) := by
        rw [hb.cell (World.block_lt_of_cell? w _ (HC.out k hlt))]; exact HC.out k hlt
      obtain ⟨z, hzk⟩ : ∃ z, zs.getD k 0 = z := ⟨_, rfl⟩
      rw [hzk] at hcs
      have HZ : Hid (zs.getD k 0 = z) := hzk
      clear hzk
      have hsz := hb.size
      by_cases hz13 : z = 13
      · subst hz13
        by_cases hlast : k + 1 < zs.length
        · have hlast' : ¬ (zs.length : Int) ≤ (k : Int) + 1 := by omega
          have hcs2 : wr.cell? ⟨b, off + (k + 1), none⟩ = some (.int .u8 (zs.getD (k + 1) 0)) := by
            rw [hb.cell (World.block_lt_of_cell? w _ (HC.out (k + 1) hlast))]; exact HC.out (k + 1) hlast
          obtain ⟨y, hyk⟩ : ∃ y, zs.getD (k + 1) 0 = y := ⟨_, rfl⟩
          rw [hyk] at hcs2
          have HY : Hid (zs[k + 1]? = some y) := by
            show zs[k + 1]? = some y
            rw [getD_next zs k hlast, hyk]
          clear hyk
          by_cases hy10 : y = 10
          · subst hy10
            have HA2 : Hid (acc ++ nrmZ (zs.drop (k + 1)) = nrmZ (stripZ zs)) := by
              show acc ++ nrmZ (zs.drop (k + 1)) = nrmZ (stripZ zs)
              rw [← HA.out, step_pair zs k hlt HZ.out HY.out]
            go_wp2_with fail
            go_roundw
            case rel => exact ⟨k + 1, acc, by omega, by go_num, hown, HA2, by omega, hb⟩
            case measure => simp [intOf]; omega
          · have hy10' : (y != 10) = true := by simpa using hy10
            have HA2 : Hid ((acc ++ [10]) ++ nrmZ (zs.drop (k + 1)) = nrmZ (stripZ zs)) := by
              show (acc ++ [10]) ++ nrmZ (zs.drop (k + 1)) = nrmZ (stripZ zs)
              rw [← HA.out, step_lone zs k hlt HZ.out (by rw [HY.out]; simpa using hy10)]; simp
            clear hy10
            go_wp2_with (at_builtin; refine wpList_append_own _ rfl _ _ 22 rfl w.heap.size 5 ti (.int .u8 0) 1 1 Tryd.underlying22 hti hz0 hz1 hz2 rfl (by decide) _ _ _ rfl (hown.alloc _) ⟨wr.heap.size, 0, none⟩ 1 1 [.int .u8 10] rfl rfl (cell_one_new _ _ _) (one_cell 10) (acc_max hak hk h60) (acc_bytes hak hk h60) (size_alloc hsz) ?_)
            intro v' w1 hown' hgrow _
            have hown2 := own_snoc hown'
            have hb2 : Below w.heap.size w w1 := (hb.alloc hb.size _).grown hgrow (by simp; omega) (fun g hg => (hown.lt g hg).1)
            clear hown' hgrow hown
            go_wp2_with fail
            go_roundw
            case rel => exact ⟨k + 1, acc ++ [10], by omega, by go_num, hown2, HA2, by simp; omega, hb2⟩
            case measure => simp [intOf]; omega
        · have hlast' : (zs.length : Int) ≤ (k : Int) + 1 := by omega
          have HA2 : Hid ((acc ++ [10]) ++ nrmZ (zs.drop (k + 1)) = nrmZ (stripZ zs)) := by
            show (acc ++ [10]) ++ nrmZ (zs.drop (k + 1)) = nrmZ (stripZ zs)
            rw [← HA.out, step_lone zs k hlt HZ.out (by rw [List.getElem?_eq_none (by omega)]; simp)]; simp
          clear hlast
          go_wp2_with (at_builtin; refine wpList_append_own _ rfl _ _ 22 rfl w.heap.size 5 ti (.int .u8 0) 1 1 Tryd.underlying22 hti hz0 hz1 hz2 rfl (by decide) _ _ _ rfl (hown.alloc _) ⟨wr.heap.size, 0, none⟩ 1 1 [.int .u8 10] rfl rfl (cell_one_new _ _ _) (one_cell 10) (acc_max hak hk h60) (acc_bytes hak hk h60) (size_alloc hsz) ?_)
          intro v' w1 hown' hgrow _
          have hown2 := own_snoc hown'
          have hb2 : Below w.heap.size w w1 := (hb.alloc hb.size _).grown hgrow (by simp; omega) (fun g hg => (hown.lt g hg).1)
          clear hown' hgrow hown
          go_wp2_with fail
          go_roundw
          case rel => exact ⟨k + 1, acc ++ [10], by omega, by go_num, hown2, HA2, by simp; omega, hb2⟩
          case measure => simp [intOf]; omega
      · have hz13' : (z != 13) = true := by simpa using hz13
        have HA2 : Hid ((acc ++ [z]) ++ nrmZ (zs.drop (k + 1)) = nrmZ (stripZ zs)) := by
          show (acc ++ [z]) ++ nrmZ (zs.drop (k + 1)) = nrmZ (stripZ zs)
          rw [← HA.out, step_other zs k hlt (by rw [HZ.out]; exact hz13), HZ.out]; simp
        clear hz13
        go_wp2_with (at_builtin; refine wpList_append_own _ rfl _ _ 22 rfl w.heap.size 5 ti (.int .u8 0) 1 1 Tryd.underlying22 hti hz0 hz1 hz2 rfl (by decide) _ _ _ rfl (hown.alloc _) ⟨wr.heap.size, 0, none⟩ 1 1 [.int .u8 z] rfl rfl (cell_one_new _ _ _) (one_cell z) (acc_max hak hk h60) (acc_bytes hak hk h60) (size_alloc hsz) ?_)
        intro v' w1 hown' hgrow _
        have hown2 := own_snoc hown'
        have hb2 : Below w.heap.size w w1 := (hb.alloc hb.size _).grown hgrow (by simp; omega) (fun g hg => (hown.lt g hg).1)
        clear hown' hgrow hown
        go_wp2_with fail
        go_roundw
        case rel => exact ⟨k + 1, acc ++ [z], by omega, by go_num, hown2, HA2, by simp; omega, hb2⟩
        case measure => simp [intOf]; omega
    · have hlt' : (zs.length : Int) ≤ (k : Int) := by omega
      have HTZ : Hid (strOfNums acc = tz zs) := by
        show strOfNums acc = tz zs
        have := HA.out
        rw [List.drop_eq_nil_of_le (by omega)] at this
        unfold tz; rw [← this]; simp [nrmZ]
      have hcv := conv_own _ _ _ acc hown
      rw [HTZ.out] at hcv
      have hsz := tz_size zs
      obtain ⟨n, hn⟩ : ∃ n, clean (tz zs) = n := ⟨_, rfl⟩
      have HN : Hid (clean (tz zs) = n) := hn
      by_cases hlc : n < (tz zs).size
      · have HR : Hid (NR zs ⟨#[]⟩ 2) := NR_bad zs HH.out (by rw [hn]; exact hlc)
        have hlc' : (n : Int) < ((tz zs).size : Int) := by omega
        clear hn
        generalize tz zs = s at *
        go_wp2_with fail
        refine (spec_clean_is s n _ (by unfold maxLen; omega) HN.out).mono ?_
        rintro e w2 ⟨rfl, hb2⟩
        go_wp2_with fail
        go_ret2
        exact ⟨⟨_, _, rfl, HR.out⟩, hb.trans (hb2.mono hb.size)⟩
      · have HR : Hid (NR zs (tz zs) 0) := NR_good zs HH.out (by rw [hn]; exact hlc)
        have hlc' : ((tz zs).size : Int) ≤ (n : Int) := by omega
        clear hn
        generalize tz zs = s at *
        go_wp2_with fail
        refine (spec_clean_is s n _ (by unfold maxLen; omega) HN.out).mono ?_
        rintro e w2 ⟨rfl, hb2⟩
        go_wp2_with fail
        go_ret2
        exact ⟨⟨_, _, rfl, HR.out⟩, hb.trans (hb2.mono hb.size)⟩
set_option maxHeartbeats 8000000 in
theorem spec_normal_B (zs : List Int) (b off c : Nat) (w : World) (HC : Hid (∀ i, i < zs.length → w.cell? ⟨b, off + i, none⟩ = some (.int .u8 (zs.getD i 0)))) (HH : Hid (zs.length ≤ 60000)) (h60 : (zs.length : Int) ≤ 60000)
    (h3 : (3 : Int) ≤ (zs.length : Int)) (x0 : Int) (z0 : w.cell? ⟨b, off, none⟩ = some (.int .u8 x0)) (hx0 : (x0 == 239) = false) (HT : Hid (stripZ zs = zs.drop 0)) :
    Calls Tryd.prog 6 #[.slice (some ⟨b, off, none⟩) zs.length c] w fun e w' => NRPost zs e ∧ Below w.heap.size w w' := by
  obtain ⟨ti, hti, hz0, hz1, hz2⟩ := info_parts info5
  go_enter Tryd.func6, Tryd.ntmps6
  go_wp2_with fail
  go_loopw [4, 5] (fun iv ov wr => ∃ (k : Nat) (acc : List Int), k ≤ zs.length ∧ iv = .int .i64 k ∧ wr.ownsRow w.heap.size 5 1 ov acc.length (acc.map (Value.int .u8)) ∧ Hid (acc ++ nrmZ (zs.drop k) = nrmZ (stripZ zs)) ∧ acc.length ≤ k ∧ Below w.heap.size w wr) (fun iv _ _ => zs.length - (intOf iv).toNat)
  case atStart => exact ⟨0, [], Nat.zero_le _, rfl, World.ownsRow_made w #[] 0 (Nat.le_refl _) (by unfold maxLen; omega) rfl, by show [] ++ nrmZ (zs.drop 0) = nrmZ (stripZ zs); rw [HT.out]; rfl, by simp, (Below.refl _ _).alloc (Nat.le_refl _) _⟩
  case round =>
    obtain ⟨k, acc, hk, rfl, hown, HA, hak, hb⟩ := hrel
    by_cases hlt : k < zs.length
    · have hlt' : (k : Int) < (zs.length : Int) := by omega
      have hcs : wr.cell? ⟨b, off + k, none⟩ = some (.int .u8 (zs.getD k 0)) := by
        rw [hb.cell (World.block_lt_of_cell? w _ (HC.out k hlt))]; exact HC.out k hlt
      obtain ⟨z, hzk⟩ : ∃ z, zs.getD k 0 = z := ⟨_, rfl⟩
      rw [hzk] at hcs
      have HZ : Hid (zs.getD k 0 = z) := hzk
      clear hzk
      have hsz := hb.size
      by_cases hz13 : z = 13
      · subst hz13
        by_cases hlast : k + 1 < zs.length
        · have hlast' : ¬ (zs.length : Int) ≤ (k : Int) + 1 := by omega
          have hcs2 : wr.cell? ⟨b, off + (k + 1), none⟩ = some (.int .u8 (zs.getD (k + 1) 0)) := by
            rw [hb.cell (World.block_lt_of_cell? w _ (HC.out (k + 1) hlast))]; exact HC.out (k + 1) hlast
          obtain ⟨y, hyk⟩ : ∃ y, zs.getD (k + 1) 0 = y := ⟨_, rfl⟩
          rw [hyk] at hcs2
          have HY : Hid (zs[k + 1]? = some y) := by
            show zs[k + 1]? = some y
            rw [getD_next zs k hlast, hyk]
          clear hyk
          by_cases hy10 : y = 10
          · subst hy10
            have HA2 : Hid (acc ++ nrmZ (zs.drop (k + 1)) = nrmZ (stripZ zs)) := by
              show acc ++ nrmZ (zs.drop (k + 1)) = nrmZ (stripZ zs)
              rw [← HA.out, step_pair zs k hlt HZ.out HY.out]
            go_wp2_with fail
            go_roundw
            case rel => exact ⟨k + 1, acc, by omega, by go_num, hown, HA2, by omega, hb⟩
            case measure => simp [intOf]; omega
          · have hy10' : (y != 10) = true := by simpa using hy10
            have HA2 : Hid ((acc ++ [10]) ++ nrmZ (zs.drop (k + 1)) = nrmZ (stripZ zs)) := by
              show (acc ++ [10]) ++ nrmZ (zs.drop (k + 1)) = nrmZ (stripZ zs)
              rw [← HA.out, step_lone zs k hlt HZ.out (by rw [HY.out]; simpa using hy10)]; simp
            clear hy10
            go_wp2_with (at_builtin; refine wpList_append_own _ rfl _ _ 22 rfl w.heap.size 5 ti (.int .u8 0) 1 1 Tryd.underlying22 hti hz0 hz1 hz2 rfl (by decide) _ _ _ rfl (hown.alloc _) ⟨wr.heap.size, 0, none⟩ 1 1 [.int .u8 10] rfl rfl (cell_one_new _ _ _) (one_cell 10) (acc_max hak hk h60) (acc_bytes hak hk h60) (size_alloc hsz) ?_)
            intro v' w1 hown' hgrow _
            have hown2 := own_snoc hown'
            have hb2 : Below w.heap.size w w1 := (hb.alloc hb.size _).grown hgrow (by simp; omega) (fun g hg => (hown.lt g hg).1)
            clear hown' hgrow hown
            go_wp2_with fail
            go_roundw
            case rel => exact ⟨k + 1, acc ++ [10], by omega, by go_num, hown2, HA2, by simp; omega, hb2⟩
            case measure => simp [intOf]; omega
        · have hlast' : (zs.length : Int) ≤ (k : Int) + 1 := by omega
          have HA2 : Hid ((acc ++ [10]) ++ nrmZ (zs.drop (k + 1)) = nrmZ (stripZ zs)) := by
            show (acc ++ [10]) ++ nrmZ (zs.drop (k + 1)) = nrmZ (stripZ zs)
            rw [← HA.out, step_lone zs k hlt HZ.out (by rw [List.getElem?_eq_none (by omega)]; simp)]; simp
          clear hlast
          go_wp2_with (at_builtin; refine wpList_append_own _ rfl _ _ 22 rfl w.heap.size 5 ti (.int .u8 0) 1 1 Tryd.underlying22 hti hz0 hz1 hz2 rfl (by decide) _ _ _ rfl (hown.alloc _) ⟨wr.heap.size, 0, none⟩ 1 1 [.int .u8 10] rfl rfl (cell_one_new _ _ _) (one_cell 10) (acc_max hak hk h60) (acc_bytes hak hk h60) (size_alloc hsz) ?_)
          intro v' w1 hown' hgrow _
          have hown2 := own_snoc hown'
          have hb2 : Below w.heap.size w w1 := (hb.alloc hb.size _).grown hgrow (by simp; omega) (fun g hg => (hown.lt g hg).1)
          clear hown' hgrow hown
          go_wp2_with fail
          go_roundw
          case rel => exact ⟨k + 1, acc ++ [10], by omega, by go_num, hown2, HA2, by simp; omega, hb2⟩
          case measure => simp [intOf]; omega
      · have hz13' : (z != 13) = true := by simpa using hz13
        have HA2 : Hid ((acc ++ [z]) ++ nrmZ (zs.drop (k + 1)) = nrmZ (stripZ zs)) := by
          show (acc ++ [z]) ++ nrmZ (zs.drop (k + 1)) = nrmZ (stripZ zs)
          rw [← HA.out, step_other zs k hlt (by rw [HZ.out]; exact hz13), HZ.out]; simp
        clear hz13
        go_wp2_with (at_builtin; refine wpList_append_own _ rfl _ _ 22 rfl w.heap.size 5 ti (.int .u8 0) 1 1 Tryd.underlying22 hti hz0 hz1 hz2 rfl (by decide) _ _ _ rfl (hown.alloc _) ⟨wr.heap.size, 0, none⟩ 1 1 [.int .u8 z] rfl rfl (cell_one_new _ _ _) (one_cell z) (acc_max hak hk h60) (acc_bytes hak hk h60) (size_alloc hsz) ?_)
        intro v' w1 hown' hgrow _
        have hown2 := own_snoc hown'
        have hb2 : Below w.heap.size w w1 := (hb.alloc hb.size _).grown hgrow (by simp; omega) (fun g hg => (hown.lt g hg).1)
        clear hown' hgrow hown
        go_wp2_with fail
        go_roundw
        case rel => exact ⟨k + 1, acc ++ [z], by omega, by go_num, hown2, HA2, by simp; omega, hb2⟩
        case measure => simp [intOf]; omega
    · have hlt' : (zs.length : Int) ≤ (k : Int) := by omega
      have HTZ : Hid (strOfNums acc = tz zs) := by
        show strOfNums acc = tz zs
        have := HA.out
        rw [List.drop_eq_nil_of_le (by omega)] at this
        unfold tz; rw [← this]; simp [nrmZ]
      have hcv := conv_own _ _ _ acc hown
      rw [HTZ.out] at hcv
      have hsz := tz_size zs
      obtain ⟨n, hn⟩ : ∃ n, clean (tz zs) = n := ⟨_, rfl⟩
      have HN : Hid (clean (tz zs) = n) := hn
      by_cases hlc : n < (tz zs).size
      · have HR : Hid (NR zs ⟨#[]⟩ 2) := NR_bad zs HH.out (by rw [hn]; exact hlc)
        have hlc' : (n : Int) < ((tz zs).size : Int) := by omega
        clear hn
        generalize tz zs = s at *
        go_wp2_with fail
        refine (spec_clean_is s n _ (by unfold maxLen; omega) HN.out).mono ?_
        rintro e w2 ⟨rfl, hb2⟩
        go_wp2_with fail
        go_ret2
        exact ⟨⟨_, _, rfl, HR.out⟩, hb.trans (hb2.mono hb.size)⟩
      · have HR : Hid (NR zs (tz zs) 0) := NR_good zs HH.out (by rw [hn]; exact hlc)
        have hlc' : ((tz zs).size : Int) ≤ (n : Int) := by omega
        clear hn
        generalize tz zs = s at *
        go_wp2_with fail
        refine (spec_clean_is s n _ (by unfold maxLen; omega) HN.out).mono ?_
        rintro e w2 ⟨rfl, hb2⟩
        go_wp2_with fail
        go_ret2
        exact ⟨⟨_, _, rfl, HR.out⟩, hb.trans (hb2.mono hb.size)⟩
set_option maxHeartbeats 8000000 in
theorem spec_normal_C (zs : List Int) (b off c : Nat) (w : World) (HC : Hid (∀ i, i < zs.length → w.cell? ⟨b, off + i, none⟩ = some (.int .u8 (zs.getD i 0)))) (HH : Hid (zs.length ≤ 60000)) (h60 : (zs.length : Int) ≤ 60000)
    (h3 : (3 : Int) ≤ (zs.length : Int)) (x1 : Int) (z0 : w.cell? ⟨b, off, none⟩ = some (.int .u8 239)) (z1 : w.cell? ⟨b, off + 1, none⟩ = some (.int .u8 x1)) (hx1 : (x1 == 187) = false) (HT : Hid (stripZ zs = zs.drop 0)) :
    Calls Tryd.prog 6 #[.slice (some ⟨b, off, none⟩) zs.length c] w fun e w' => NRPost zs e ∧ Below w.heap.size w w' := by
  obtain ⟨ti, hti, hz0, hz1, hz2⟩ := info_parts info5
  go_enter Tryd.func6, Tryd.ntmps6
  go_wp2_with fail
  go_loopw [4, 5] (fun iv ov wr => ∃ (k : Nat) (acc : List Int), k ≤ zs.length ∧ iv = .int .i64 k ∧ wr.ownsRow w.heap.size 5 1 ov acc.length (acc.map (Value.int .u8)) ∧ Hid (acc ++ nrmZ (zs.drop k) = nrmZ (stripZ zs)) ∧ acc.length ≤ k ∧ Below w.heap.size w wr) (fun iv _ _ => zs.length - (intOf iv).toNat)
  case atStart => exact ⟨0, [], Nat.zero_le _, rfl, World.ownsRow_made w #[] 0 (Nat.le_refl _) (by unfold maxLen; omega) rfl, by show [] ++ nrmZ (zs.drop 0) = nrmZ (stripZ zs); rw [HT.out]; rfl, by simp, (Below.refl _ _).alloc (Nat.le_refl _) _⟩
  case round =>
    obtain ⟨k, acc, hk, rfl, hown, HA, hak, hb⟩ := hrel
    by_cases hlt : k < zs.length
    · have hlt' : (k : Int) < (zs.length : Int) := by omega
      have hcs : wr.cell? ⟨b, off + k, none⟩ = some (.int .u8 (zs.getD k 0)) := by
        rw [hb.cell (World.block_lt_of_cell? w _ (HC.out k hlt))]; exact HC.out k hlt
      obtain ⟨z, hzk⟩ : ∃ z, zs.getD k 0 = z := ⟨_, rfl⟩
      rw [hzk] at hcs
      have HZ : Hid (zs.getD k 0 = z) := hzk
      clear hzk
      have hsz := hb.size
      by_cases hz13 : z = 13
      · subst hz13
        by_cases hlast : k + 1 < zs.length
        · have hlast' : ¬ (zs.length : Int) ≤ (k : Int) + 1 := by omega
          have hcs2 : wr.cell? ⟨b, off + (k + 1), none⟩ = some (.int .u8 (zs.getD (k + 1) 0)) := by
            rw [hb.cell (World.block_lt_of_cell? w _ (HC.out (k + 1) hlast))]; exact HC.out (k + 1) hlast
          obtain ⟨y, hyk⟩ : ∃ y, zs.getD (k + 1) 0 = y := ⟨_, rfl⟩
          rw [hyk] at hcs2
          have HY : Hid (zs[k + 1]? = some y) := by
            show zs[k + 1]? = some y
            rw [getD_next zs k hlast, hyk]
          clear hyk
          by_cases hy10 : y = 10
          · subst hy10
            have HA2 : Hid (acc ++ nrmZ (zs.drop (k + 1)) = nrmZ (stripZ zs)) := by
              show acc ++ nrmZ (zs.drop (k + 1)) = nrmZ (stripZ zs)
              rw [← HA.out, step_pair zs k hlt HZ.out HY.out]
            go_wp2_with fail
            go_roundw
            case rel => exact ⟨k + 1, acc, by omega, by go_num, hown, HA2, by omega, hb⟩
            case measure => simp [intOf]; omega
          · have hy10' : (y != 10) = true := by simpa using hy10
            have HA2 : Hid ((acc ++ [10]) ++ nrmZ (zs.drop (k + 1)) = nrmZ (stripZ zs)) := by
              show (acc ++ [10]) ++ nrmZ (zs.drop (k + 1)) = nrmZ (stripZ zs)
              rw [← HA.out, step_lone zs k hlt HZ.out (by rw [HY.out]; simpa using hy10)]; simp
            clear hy10
            go_wp2_with (at_builtin; refine wpList_append_own _ rfl _ _ 22 rfl w.heap.size 5 ti (.int .u8 0) 1 1 Tryd.underlying22 hti hz0 hz1 hz2 rfl (by decide) _ _ _ rfl (hown.alloc _) ⟨wr.heap.size, 0, none⟩ 1 1 [.int .u8 10] rfl rfl (cell_one_new _ _ _) (one_cell 10) (acc_max hak hk h60) (acc_bytes hak hk h60) (size_alloc hsz) ?_)
            intro v' w1 hown' hgrow _
            have hown2 := own_snoc hown'
            have hb2 : Below w.heap.size w w1 := (hb.alloc hb.size _).grown hgrow (by simp; omega) (fun g hg => (hown.lt g hg).1)
            clear hown' hgrow hown
            go_wp2_with fail
            go_roundw
            case rel => exact ⟨k + 1, acc ++ [10], by omega, by go_num, hown2, HA2, by simp; omega, hb2⟩
            case measure => simp [intOf]; omega
        · have hlast' : (zs.length : Int) ≤ (k : Int) + 1 := by omega
          have HA2 : Hid ((acc ++ [10]) ++ nrmZ (zs.drop (k + 1)) = nrmZ (stripZ zs)) := by
            show (acc ++ [10]) ++ nrmZ (zs.drop (k + 1)) = nrmZ (stripZ zs)
            rw [← HA.out, step_lone zs k hlt HZ.out (by rw [List.getElem?_eq_none (by omega)]; simp)]; simp
          clear hlast
          go_wp2_with (at_builtin; refine wpList_append_own _ rfl _ _ 22 rfl w.heap.size 5 ti (.int .u8 0) 1 1 Tryd.underlying22 hti hz0 hz1 hz2 rfl (by decide) _ _ _ rfl (hown.alloc _) ⟨wr.heap.size, 0, none⟩ 1 1 [.int .u8 10] rfl rfl (cell_one_new _ _ _) (one_cell 10) (acc_max hak hk h60) (acc_bytes hak hk h60) (size_alloc hsz) ?_)
          intro v' w1 hown' hgrow _
          have hown2 := own_snoc hown'
          have hb2 : Below w.heap.size w w1 := (hb.alloc hb.size _).grown hgrow (by simp; omega) (fun g hg => (hown.lt g hg).1)
          clear hown' hgrow hown
          go_wp2_with fail
          go_roundw
          case rel => exact ⟨k + 1, acc ++ [10], by omega, by go_num, hown2, HA2, by simp; omega, hb2⟩
          case measure => simp [intOf]; omega
      · have hz13' : (z != 13) = true := by simpa using hz13
        have HA2 : Hid ((acc ++ [z]) ++ nrmZ (zs.drop (k + 1)) = nrmZ (stripZ zs)) := by
          show (acc ++ [z]) ++ nrmZ (zs.drop (k + 1)) = nrmZ (stripZ zs)
          rw [← HA.out, step_other zs k hlt (by rw [HZ.out]; exact hz13), HZ.out]; simp
        clear hz13
        go_wp2_with (at_builtin; refine wpList_append_own _ rfl _ _ 22 rfl w.heap.size 5 ti (.int .u8 0) 1 1 Tryd.underlying22 hti hz0 hz1 hz2 rfl (by decide) _ _ _ rfl (hown.alloc _) ⟨wr.heap.size, 0, none⟩ 1 1 [.int .u8 z] rfl rfl (cell_one_new _ _ _) (one_cell z) (acc_max hak hk h60) (acc_bytes hak hk h60) (size_alloc hsz) ?_)
        intro v' w1 hown' hgrow _
        have hown2 := own_snoc hown'
        have hb2 : Below w.heap.size w w1 := (hb.alloc hb.size _).grown hgrow (by simp; omega) (fun g hg => (hown.lt g hg).1)
        clear hown' hgrow hown
        go_wp2_with fail
        go_roundw
        case rel => exact ⟨k + 1, acc ++ [z], by omega, by go_num, hown2, HA2, by simp; omega, hb2⟩
        case measure => simp [intOf]; omega
    · have hlt' : (zs.length : Int) ≤ (k : Int) := by omega
      have HTZ : Hid (strOfNums acc = tz zs) := by
        show strOfNums acc = tz zs
        have := HA.out
        rw [List.drop_eq_nil_of_le (by omega)] at this
        unfold tz; rw [← this]; simp [nrmZ]
      have hcv := conv_own _ _ _ acc hown
      rw [HTZ.out] at hcv
      have hsz := tz_size zs
      obtain ⟨n, hn⟩ : ∃ n, clean (tz zs) = n := ⟨_, rfl⟩
      have HN : Hid (clean (tz zs) = n) := hn
      by_cases hlc : n < (tz zs).size
      · have HR : Hid (NR zs ⟨#[]⟩ 2) := NR_bad zs HH.out (by rw [hn]; exact hlc)
        have hlc' : (n : Int) < ((tz zs).size : Int) := by omega
        clear hn
        generalize tz zs = s at *
        go_wp2_with fail
        refine (spec_clean_is s n _ (by unfold maxLen; omega) HN.out).mono ?_
        rintro e w2 ⟨rfl, hb2⟩
        go_wp2_with fail
        go_ret2
        exact ⟨⟨_, _, rfl, HR.out⟩, hb.trans (hb2.mono hb.size)⟩
      · have HR : Hid (NR zs (tz zs) 0) := NR_good zs HH.out (by rw [hn]; exact hlc)
        have hlc' : ((tz zs).size : Int) ≤ (n : Int) := by omega
        clear hn
        generalize tz zs = s at *
        go_wp2_with fail
        refine (spec_clean_is s n _ (by unfold maxLen; omega) HN.out).mono ?_
        rintro e w2 ⟨rfl, hb2⟩
        go_wp2_with fail
        go_ret2
        exact ⟨⟨_, _, rfl, HR.out⟩, hb.trans (hb2.mono hb.size)⟩
set_option maxHeartbeats 8000000 in
theorem spec_normal_D (zs : List Int) (b off c : Nat) (w : World) (HC : Hid (∀ i, i < zs.length → w.cell? ⟨b, off + i, none⟩ = some (.int .u8 (zs.getD i 0)))) (HH : Hid (zs.length ≤ 60000)) (h60 : (zs.length : Int) ≤ 60000)
    (h3 : (3 : Int) ≤ (zs.length : Int)) (x2 : Int) (z0 : w.cell? ⟨b, off, none⟩ = some (.int .u8 239)) (z1 : w.cell? ⟨b, off + 1, none⟩ = some (.int .u8 187)) (z2 : w.cell? ⟨b, off + 2, none⟩ = some (.int .u8 x2)) (hx2 : (x2 == 191) = false) (HT : Hid (stripZ zs = zs.drop 0)) :
    Calls Tryd.prog 6 #[.slice (some ⟨b, off, none⟩) zs.length c] w fun e w' => NRPost zs e ∧ Below w.heap.size w w' := by
  obtain ⟨ti, hti, hz0, hz1, hz2⟩ := info_parts info5
  go_enter Tryd.func6, Tryd.ntmps6
  go_wp2_with fail
  go_loopw [4, 5] (fun iv ov wr => ∃ (k : Nat) (acc : List Int), k ≤ zs.length ∧ iv = .int .i64 k ∧ wr.ownsRow w.heap.size 5 1 ov acc.length (acc.map (Value.int .u8)) ∧ Hid (acc ++ nrmZ (zs.drop k) = nrmZ (stripZ zs)) ∧ acc.length ≤ k ∧ Below w.heap.size w wr) (fun iv _ _ => zs.length - (intOf iv).toNat)
  case atStart => exact ⟨0, [], Nat.zero_le _, rfl, World.ownsRow_made w #[] 0 (Nat.le_refl _) (by unfold maxLen; omega) rfl, by show [] ++ nrmZ (zs.drop 0) = nrmZ (stripZ zs); rw [HT.out]; rfl, by simp, (Below.refl _ _).alloc (Nat.le_refl _) _⟩
  case round =>
    obtain ⟨k, acc, hk, rfl, hown, HA, hak, hb⟩ := hrel
    by_cases hlt : k < zs.length
    · have hlt' : (k : Int) < (zs.length : Int) := by omega
      have hcs : wr.cell? ⟨b, off + k, none⟩ = some (.int .u8 (zs.getD k 0)) := by
        rw [hb.cell (World.block_lt_of_cell? w _ (HC.out k hlt))]; exact HC.out k hlt
      obtain ⟨z, hzk⟩ : ∃ z, zs.getD k 0 = z := ⟨_, rfl⟩
      rw [hzk] at hcs
      have HZ : Hid (zs.getD k 0 = z) := hzk
      clear hzk
      have hsz := hb.size
      by_cases hz13 : z = 13
      · subst hz13
        by_cases hlast : k + 1 < zs.length
        · have hlast' : ¬ (zs.length : Int) ≤ (k : Int) + 1 := by omega
          have hcs2 : wr.cell? ⟨b, off + (k + 1), none⟩ = some (.int .u8 (zs.getD (k + 1) 0)) := by
            rw [hb.cell (World.block_lt_of_cell? w _ (HC.out (k + 1) hlast))]; exact HC.out (k + 1) hlast
          obtain ⟨y, hyk⟩ : ∃ y, zs.getD (k + 1) 0 = y := ⟨_, rfl⟩
          rw [hyk] at hcs2
          have HY : Hid (zs[k + 1]? = some y) := by
            show zs[k + 1]? = some y
            rw [getD_next zs k hlast, hyk]
          clear hyk
          by_cases hy10 : y = 10
          · subst hy10
            have HA2 : Hid (acc ++ nrmZ (zs.drop (k + 1)) = nrmZ (stripZ zs)) := by
              show acc ++ nrmZ (zs.drop (k + 1)) = nrmZ (stripZ zs)
              rw [← HA.out, step_pair zs k hlt HZ.out HY.out]
            go_wp2_with fail
            go_roundw
            case rel => exact ⟨k + 1, acc, by omega, by go_num, hown, HA2, by omega, hb⟩
            case measure => simp [intOf]; omega
          · have hy10' : (y != 10) = true := by simpa using hy10
            have HA2 : Hid ((acc ++ [10]) ++ nrmZ (zs.drop (k + 1)) = nrmZ (stripZ zs)) := by
              show (acc ++ [10]) ++ nrmZ (zs.drop (k + 1)) = nrmZ (stripZ zs)
              rw [← HA.out, step_lone zs k hlt HZ.out (by rw [HY.out]; simpa using hy10)]; simp
            clear hy10
            go_wp2_with (at_builtin; refine wpList_append_own _ rfl _ _ 22 rfl w.heap.size 5 ti (.int .u8 0) 1 1 Tryd.underlying22 hti hz0 hz1 hz2 rfl (by decide) _ _ _ rfl (hown.alloc _) ⟨wr.heap.size, 0, none⟩ 1 1 [.int .u8 10] rfl rfl (cell_one_new _ _ _) (one_cell 10) (acc_max hak hk h60) (acc_bytes hak hk h60) (size_alloc hsz) ?_)
            intro v' w1 hown' hgrow _
            have hown2 := own_snoc hown'
            have hb2 : Below w.heap.size w w1 := (hb.alloc hb.size _).grown hgrow (by simp; omega) (fun g hg => (hown.lt g hg).1)
            clear hown' hgrow hown
            go_wp2_with fail
            go_roundw
            case rel => exact ⟨k + 1, acc ++ [10], by omega, by go_num, hown2, HA2, by simp; omega, hb2⟩
            case measure => simp [intOf]; omega
        · have hlast' : (zs.length : Int) ≤ (k : Int) + 1 := by omega
          have HA2 : Hid ((acc ++ [10]) ++ nrmZ (zs.drop (k + 1)) = nrmZ (stripZ zs)) := by
            show (acc ++ [10]) ++ nrmZ (zs.drop (k + 1)) = nrmZ (stripZ zs)
            rw [← HA.out, step_lone zs k hlt HZ.out (by rw [List.getElem?_eq_none (by omega)]; simp)]; simp
          clear hlast
          go_wp2_with (at_builtin; refine wpList_append_own _ rfl _ _ 22 rfl w.heap.size 5 ti (.int .u8 0) 1 1 Tryd.underlying22 hti hz0 hz1 hz2 rfl (by decide) _ _ _ rfl (hown.alloc _) ⟨wr.heap.size, 0, none⟩ 1 1 [.int .u8 10] rfl rfl (cell_one_new _ _ _) (one_cell 10) (acc_max hak hk h60) (acc_bytes hak hk h60) (size_alloc hsz) ?_)
          intro v' w1 hown' hgrow _
          have hown2 := own_snoc hown'
          have hb2 : Below w.heap.size w w1 := (hb.alloc hb.size _).grown hgrow (by simp; omega) (fun g hg => (hown.lt g hg).1)
          clear hown' hgrow hown
          go_wp2_with fail
          go_roundw
          case rel => exact ⟨k + 1, acc ++ [10], by omega, by go_num, hown2, HA2, by simp; omega, hb2⟩
          case measure => simp [intOf]; omega
      · have hz13' : (z != 13) = true := by simpa using hz13
        have HA2 : Hid ((acc ++ [z]) ++ nrmZ (zs.drop (k + 1)) = nrmZ (stripZ zs)) := by
          show (acc ++ [z]) ++ nrmZ (zs.drop (k + 1)) = nrmZ (stripZ zs)
          rw [← HA.out, step_other zs k hlt (by rw [HZ.out]; exact hz13), HZ.out]; simp
        clear hz13
        go_wp2_with (at_builtin; refine wpList_append_own _ rfl _ _ 22 rfl w.heap.size 5 ti (.int .u8 0) 1 1 Tryd.underlying22 hti hz0 hz1 hz2 rfl (by decide) _ _ _ rfl (hown.alloc _) ⟨wr.heap.size, 0, none⟩ 1 1 [.int .u8 z] rfl rfl (cell_one_new _ _ _) (one_cell z) (acc_max hak hk h60) (acc_bytes hak hk h60) (size_alloc hsz) ?_)
        intro v' w1 hown' hgrow _
        have hown2 := own_snoc hown'
        have hb2 : Below w.heap.size w w1 := (hb.alloc hb.size _).grown hgrow (by simp; omega) (fun g hg => (hown.lt g hg).1)
        clear hown' hgrow hown
        go_wp2_with fail
        go_roundw
        case rel => exact ⟨k + 1, acc ++ [z], by omega, by go_num, hown2, HA2, by simp; omega, hb2⟩
        case measure => simp [intOf]; omega
    · have hlt' : (zs.length : Int) ≤ (k : Int) := by omega
      have HTZ : Hid (strOfNums acc = tz zs) := by
        show strOfNums acc = tz zs
        have := HA.out
        rw [List.drop_eq_nil_of_le (by omega)] at this
        unfold tz; rw [← this]; simp [nrmZ]
      have hcv := conv_own _ _ _ acc hown
      rw [HTZ.out] at hcv
      have hsz := tz_size zs
      obtain ⟨n, hn⟩ : ∃ n, clean (tz zs) = n := ⟨_, rfl⟩
      have HN : Hid (clean (tz zs) = n) := hn
      by_cases hlc : n < (tz zs).size
      · have HR : Hid (NR zs ⟨#[]⟩ 2) := NR_bad zs HH.out (by rw [hn]; exact hlc)
        have hlc' : (n : Int) < ((tz zs).size : Int) := by omega
        clear hn
        generalize tz zs = s at *
        go_wp2_with fail
        refine (spec_clean_is s n _ (by unfold maxLen; omega) HN.out).mono ?_
        rintro e w2 ⟨rfl, hb2⟩
        go_wp2_with fail
        go_ret2
        exact ⟨⟨_, _, rfl, HR.out⟩, hb.trans (hb2.mono hb.size)⟩
      · have HR : Hid (NR zs (tz zs) 0) := NR_good zs HH.out (by rw [hn]; exact hlc)
        have hlc' : ((tz zs).size : Int) ≤ (n : Int) := by omega
        clear hn
        generalize tz zs = s at *
        go_wp2_with fail
        refine (spec_clean_is s n _ (by unfold maxLen; omega) HN.out).mono ?_
        rintro e w2 ⟨rfl, hb2⟩
        go_wp2_with fail
        go_ret2
        exact ⟨⟨_, _, rfl, HR.out⟩, hb.trans (hb2.mono hb.size)⟩
set_option maxHeartbeats 8000000 in
theorem spec_normal_E (zs : List Int) (b off c : Nat) (w : World) (HC : Hid (∀ i, i < zs.length → w.cell? ⟨b, off + i, none⟩ = some (.int .u8 (zs.getD i 0)))) (HH : Hid (zs.length ≤ 60000)) (h60 : (zs.length : Int) ≤ 60000)
    (h3 : (3 : Int) ≤ (zs.length : Int)) (z0 : w.cell? ⟨b, off, none⟩ = some (.int .u8 239)) (z1 : w.cell? ⟨b, off + 1, none⟩ = some (.int .u8 187)) (z2 : w.cell? ⟨b, off + 2, none⟩ = some (.int .u8 191)) (HT : Hid (stripZ zs = zs.drop 3)) :
    Calls Tryd.prog 6 #[.slice (some ⟨b, off, none⟩) zs.length c] w fun e w' => NRPost zs e ∧ Below w.heap.size w w' := by
  obtain ⟨ti, hti, hz0, hz1, hz2⟩ := info_parts info5
  go_enter Tryd.func6, Tryd.ntmps6
  go_wp2_with fail
  go_loopw [4, 5] (fun iv ov wr => ∃ (k : Nat) (acc : List Int), k ≤ zs.length ∧ iv = .int .i64 k ∧ wr.ownsRow w.heap.size 5 1 ov acc.length (acc.map (Value.int .u8)) ∧ Hid (acc ++ nrmZ (zs.drop k) = nrmZ (stripZ zs)) ∧ acc.length ≤ k ∧ Below w.heap.size w wr) (fun iv _ _ => zs.length - (intOf iv).toNat)
  case atStart => exact ⟨3, [], by omega, rfl, World.ownsRow_made w #[] 0 (Nat.le_refl _) (by unfold maxLen; omega) rfl, by show [] ++ nrmZ (zs.drop 3) = nrmZ (stripZ zs); rw [HT.out]; rfl, by simp, (Below.refl _ _).alloc (Nat.le_refl _) _⟩
  case round =>
    obtain ⟨k, acc, hk, rfl, hown, HA, hak, hb⟩ := hrel
    by_cases hlt : k < zs.length
    · have hlt' : (k : Int) < (zs.length : Int) := by omega
      have hcs : wr.cell? ⟨b, off + k, none⟩ = some (.int .u8 (zs.getD k 0)) := by
        rw [hb.cell (World.block_lt_of_cell? w _ (HC.out k hlt))]; exact HC.out k hlt
      obtain ⟨z, hzk⟩ : ∃ z, zs.getD k 0 = z := ⟨_, rfl⟩
      rw [hzk] at hcs
      have HZ : Hid (zs.getD k 0 = z) := hzk
      clear hzk
      have hsz := hb.size
      by_cases hz13 : z = 13
      · subst hz13
        by_cases hlast : k + 1 < zs.length
        · have hlast' : ¬ (zs.length : Int) ≤ (k : Int) + 1 := by omega
          have hcs2 : wr.cell? ⟨b, off + (k + 1), none⟩ = some (.int .u8 (zs.getD (k + 1) 0)) := by
            rw [hb.cell (World.block_lt_of_cell? w _ (HC.out (k + 1) hlast))]; exact HC.out (k + 1) hlast
          obtain ⟨y, hyk⟩ : ∃ y, zs.getD (k + 1) 0 = y := ⟨_, rfl⟩
          rw [hyk] at hcs2
          have HY : Hid (zs[k + 1]? = some y) := by
            show zs[k + 1]? = some y
            rw [getD_next zs k hlast, hyk]
          clear hyk
          by_cases hy10 : y = 10
          · subst hy10
            have HA2 : Hid (acc ++ nrmZ (zs.drop (k + 1)) = nrmZ (stripZ zs)) := by
              show acc ++ nrmZ (zs.drop (k + 1)) = nrmZ (stripZ zs)
              rw [← HA.out, step_pair zs k hlt HZ.out HY.out]
            go_wp2_with fail
            go_roundw
            case rel => exact ⟨k + 1, acc, by omega, by go_num, hown, HA2, by omega, hb⟩
            case measure => simp [intOf]; omega
          · have hy10' : (y != 10) = true := by simpa using hy10
            have HA2 : Hid ((acc ++ [10]) ++ nrmZ (zs.drop (k + 1)) = nrmZ (stripZ zs)) := by
              show (acc ++ [10]) ++ nrmZ (zs.drop (k + 1)) = nrmZ (stripZ zs)
              rw [← HA.out, step_lone zs k hlt HZ.out (by rw [HY.out]; simpa using hy10)]; simp
            clear hy10
            go_wp2_with (at_builtin; refine wpList_append_own _ rfl _ _ 22 rfl w.heap.size 5 ti (.int .u8 0) 1 1 Tryd.underlying22 hti hz0 hz1 hz2 rfl (by decide) _ _ _ rfl (hown.alloc _) ⟨wr.heap.size, 0, none⟩ 1 1 [.int .u8 10] rfl rfl (cell_one_new _ _ _) (one_cell 10) (acc_max hak hk h60) (acc_bytes hak hk h60) (size_alloc hsz) ?_)
            intro v' w1 hown' hgrow _
            have hown2 := own_snoc hown'
            have hb2 : Below w.heap.size w w1 := (hb.alloc hb.size _).grown hgrow (by simp; omega) (fun g hg => (hown.lt g hg).1)
            clear hown' hgrow hown
            go_wp2_with fail
            go_roundw
            case rel => exact ⟨k + 1, acc ++ [10], by omega, by go_num, hown2, HA2, by simp; omega, hb2⟩
            case measure => simp [intOf]; omega
        · have hlast' : (zs.length : Int) ≤ (k : Int) + 1 := by omega
          have HA2 : Hid ((acc ++ [10]) ++ nrmZ (zs.drop (k + 1)) = nrmZ (stripZ zs)) := by
            show (acc ++ [10]) ++ nrmZ (zs.drop (k + 1)) = nrmZ (stripZ zs)
            rw [← HA.out, step_lone zs k hlt HZ.out (by rw [List.getElem?_eq_none (by omega)]; simp)]; simp
          clear hlast
          go_wp2_with (at_builtin; refine wpList_append_own _ rfl _ _ 22 rfl w.heap.size 5 ti (.int .u8 0) 1 1 Tryd.underlying22 hti hz0 hz1 hz2 rfl (by decide) _ _ _ rfl (hown.alloc _) ⟨wr.heap.size, 0, none⟩ 1 1 [.int .u8 10] rfl rfl (cell_one_new _ _ _) (one_cell 10) (acc_max hak hk h60) (acc_bytes hak hk h60) (size_alloc hsz) ?_)
          intro v' w1 hown' hgrow _
          have hown2 := own_snoc hown'
          have hb2 : Below w.heap.size w w1 := (hb.alloc hb.size _).grown hgrow (by simp; omega) (fun g hg => (hown.lt g hg).1)
          clear hown' hgrow hown
          go_wp2_with fail
          go_roundw
          case rel => exact ⟨k + 1, acc ++ [10], by omega, by go_num, hown2, HA2, by simp; omega, hb2⟩
          case measure => simp [intOf]; omega
      · have hz13' : (z != 13) = true := by simpa using hz13
        have HA2 : Hid ((acc ++ [z]) ++ nrmZ (zs.drop (k + 1)) = nrmZ (stripZ zs)) := by
          show (acc ++ [z]) ++ nrmZ (zs.drop (k + 1)) = nrmZ (stripZ zs)
          rw [← HA.out, step_other zs k hlt (by rw [HZ.out]; exact hz13), HZ.out]; simp
        clear hz13
        go_wp2_with (at_builtin; refine wpList_append_own _ rfl _ _ 22 rfl w.heap.size 5 ti (.int .u8 0) 1 1 Tryd.underlying22 hti hz0 hz1 hz2 rfl (by decide) _ _ _ rfl (hown.alloc _) ⟨wr.heap.size, 0, none⟩ 1 1 [.int .u8 z] rfl rfl (cell_one_new _ _ _) (one_cell z) (acc_max hak hk h60) (acc_bytes hak hk h60) (size_alloc hsz) ?_)
        intro v' w1 hown' hgrow _
        have hown2 := own_snoc hown'
        have hb2 : Below w.heap.size w w1 := (hb.alloc hb.size _).grown hgrow (by simp; omega) (fun g hg => (hown.lt g hg).1)
        clear hown' hgrow hown
        go_wp2_with fail
        go_roundw
        case rel => exact ⟨k + 1, acc ++ [z], by omega, by go_num, hown2, HA2, by simp; omega, hb2⟩
        case measure => simp [intOf]; omega
    · have hlt' : (zs.length : Int) ≤ (k : Int) := by omega
      have HTZ : Hid (strOfNums acc = tz zs) := by
        show strOfNums acc = tz zs
        have := HA.out
        rw [List.drop_eq_nil_of_le (by omega)] at this
        unfold tz; rw [← this]; simp [nrmZ]
      have hcv := conv_own _ _ _ acc hown
      rw [HTZ.out] at hcv
      have hsz := tz_size zs
      obtain ⟨n, hn⟩ : ∃ n, clean (tz zs) = n := ⟨_, rfl⟩
      have HN : Hid (clean (tz zs) = n) := hn
      by_cases hlc : n < (tz zs).size
      · have HR : Hid (NR zs ⟨#[]⟩ 2) := NR_bad zs HH.out (by rw [hn]; exact hlc)
        have hlc' : (n : Int) < ((tz zs).size : Int) := by omega
        clear hn
        generalize tz zs = s at *
        go_wp2_with fail
        refine (spec_clean_is s n _ (by unfold maxLen; omega) HN.out).mono ?_
        rintro e w2 ⟨rfl, hb2⟩
        go_wp2_with fail
        go_ret2
        exact ⟨⟨_, _, rfl, HR.out⟩, hb.trans (hb2.mono hb.size)⟩
      · have HR : Hid (NR zs (tz zs) 0) := NR_good zs HH.out (by rw [hn]; exact hlc)
        have hlc' : ((tz zs).size : Int) ≤ (n : Int) := by omega
        clear hn
        generalize tz zs = s at *
        go_wp2_with fail
        refine (spec_clean_is s n _ (by unfold maxLen; omega) HN.out).mono ?_
        rintro e w2 ⟨rfl, hb2⟩
        go_wp2_with fail
        go_ret2
        exact ⟨⟨_, _, rfl, HR.out⟩, hb.trans (hb2.mono hb.size)⟩
theorem clean_empty : clean ⟨#[]⟩ = 0 := rfl
set_option maxHeartbeats 1000000 in
theorem spec_normal_nil (a : Option Addr) (c : Nat) (w : World) :
    Calls Tryd.prog 6 #[.slice a 0 c] w fun e w' => NRPost [] e ∧ Below w.heap.size w w' := by
  have HR : Hid (NR [] ⟨#[]⟩ 0) := NR_good [] (by simp) (by decide)
  have hcv : ∀ w : World, (convert 22 9 (.slice (some ⟨w.heap.size, 0, none⟩) 0 0)).run Tryd.prog (w.alloc (.cells #[] 5)) = .ok (.string ⟨#[]⟩) (w.alloc (.cells #[] 5)) := fun w =>
    conv_own _ w.heap.size _ [] (World.ownsRow_made w #[] 0 (Nat.le_refl _) (by unfold maxLen; omega) rfl)
  go_enter Tryd.func6, Tryd.ntmps6
  go_wp2_with fail
  refine wp_loop_rounds 1 ?_
  rw [rounds_succ]
  go_wp2_with fail
  refine (spec_clean_is ⟨#[]⟩ 0 _ (by unfold maxLen; decide) clean_empty).mono ?_
  rintro e w2 ⟨rfl, hb2⟩
  go_wp2_with fail
  go_ret2
  exact ⟨⟨_, _, rfl, HR.out⟩, ((Below.refl _ w).alloc (Nat.le_refl _) _).trans (hb2.mono (by simp))⟩
theorem spec_normal (v : Value) (zs : List Int) (w : World) (hS : Sl w v zs) :
    Calls Tryd.prog 6 #[v] w fun e w' => NRPost zs e ∧ Below w.heap.size w w' := by
  by_cases h : 60000 < zs.length
  · exact spec_normal_big v zs w hS h
  · have h' : zs.length ≤ 60000 := by omega
    rcases hS with ⟨rfl, a, c, rfl⟩ | ⟨_, b, off, c, rfl, hc⟩
    · exact spec_normal_nil a c w
    · by_cases h3 : 3 ≤ zs.length
      · have z0 : w.cell? ⟨b, off, none⟩ = some (.int .u8 (zs.getD 0 0)) := hc 0 (by omega)
        have z1 : w.cell? ⟨b, off + 1, none⟩ = some (.int .u8 (zs.getD 1 0)) := hc 1 (by omega)
        have z2 : w.cell? ⟨b, off + 2, none⟩ = some (.int .u8 (zs.getD 2 0)) := hc 2 (by omega)
        have t3 := take3 zs h3
        by_cases e0 : zs.getD 0 0 = 239
        · rw [e0] at z0 t3
          by_cases e1 : zs.getD 1 0 = 187
          · rw [e1] at z1 t3
            by_cases e2 : zs.getD 2 0 = 191
            · rw [e2] at z2 t3
              exact spec_normal_E zs b off c w hc h' (by omega) (by omega) z0 z1 z2 (strip_yes zs t3)
            · exact spec_normal_D zs b off c w hc h' (by omega) (by omega) _ z0 z1 z2 (by rw [beq_eq_false_iff_ne]; exact e2) (strip_not zs (by rw [t3]; intro hh; simp only [List.cons.injEq] at hh; exact e2 hh.2.2.1))
          · exact spec_normal_C zs b off c w hc h' (by omega) (by omega) _ z0 z1 (by rw [beq_eq_false_iff_ne]; exact e1) (strip_not zs (by rw [t3]; intro hh; simp only [List.cons.injEq] at hh; exact e1 hh.2.1))
        · exact spec_normal_B zs b off c w hc h' (by omega) (by omega) _ z0 (by rw [beq_eq_false_iff_ne]; exact e0) (strip_not zs (by rw [t3]; intro hh; simp only [List.cons.injEq] at hh; exact e0 hh.1))
      · exact spec_normal_A zs b off c w hc h' (by omega) (by omega) (strip_not zs (not_take3 zs h3))
end Go.Proofs.YtgknoaabppmmiafDoor
