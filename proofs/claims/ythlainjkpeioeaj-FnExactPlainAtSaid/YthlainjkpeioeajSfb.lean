/- The contract of spec.FoldBlock. -/
import Derived.Test.YthlainjkpeioeajSff
namespace Go.Proofs.Ythlainjkpeioeaj
open Go.ChangeShapes Go.WideShapes Go.ChangeAt Go.RowKit
theorem ret_bool' {a b : Bool} (h : a = b) : Ending.returned (.bool a) = .returned (.bool b) := by rw [h]
theorem white0_ (s : ByteArray) (w : World) (b : Bool) (hb : farS s = b) :
    Calls Try.prog 36 #[.string s, .int .i64 0] w fun e w' => e = .returned (.bool b) ∧ w' = w := by
  subst hb
  by_cases hlt : 0 < s.size
  · have hg : (s.data[0]!).toNat = (s[0]'hlt).toNat := by
      have : 0 < s.data.size := hlt
      rw [getElem!_pos s.data 0 this]; rfl
    have HP : Hid (farS s = (((s[0]'hlt).toNat : Int) == 32 || ((s[0]'hlt).toNat : Int) == 9)) := by
      show farS s = (((s[0]'hlt).toNat : Int) == 32 || ((s[0]'hlt).toNat : Int) == 9)
      unfold farS
      rw [hg, decide_eq_true hlt, Bool.true_and, Bool.eq_iff_iff]
      simp; omega
    rw [HP.out]
    clear hg HP
    have hlt' : (0 : Int) < (s.size : Int) := by omega
    by_cases h1 : (s[0]'hlt).toNat = 32
    · go_enter Try.func36, Try.ntmps36
      go_wp2_with fail
      go_ret
      refine ⟨ret_bool' ?_, rfl⟩
      simp [h1]
    · have h1' : (((s[0]'hlt).toNat : Int) == 32) = false := by rw [beq_eq_false_iff_ne]; omega
      clear h1
      go_enter Try.func36, Try.ntmps36
      go_wp2_with fail
      go_ret
      refine ⟨ret_bool' ?_, rfl⟩
      simp [h1']
  · have HP : Hid (farS s = false) := by
      show farS s = false
      unfold farS
      rw [decide_eq_false hlt]; rfl
    rw [HP.out]
    have hlt' : ¬ (0 : Int) < (s.size : Int) := by omega
    go_enter Try.func36, Try.ntmps36
    go_wp2_with fail
    go_ret
    exact ⟨rfl, rfl⟩
theorem far_ (s : ByteArray) (w : World) (b : Bool) (hb : farS s = b) :
    Calls Try.prog 21 #[.string s] w fun e w' => e = .returned (.bool b) ∧ w' = w := by
  go_enter Try.func21, Try.ntmps21
  go_wp2_with fail
  refine (white0_ s _ b hb).mono ?_
  rintro e w1 ⟨rfl, rfl⟩
  go_wp2_with fail
  go_ret
  exact ⟨rfl, rfl⟩
theorem FIN (T : ByteArray) : Hid (∀ (o : ByteArray), o ++ brks 0 = T → o = T) := fun o h => by rw [← h]; exact (app_empty o).symm
theorem STEP (T : ByteArray) : Hid (∀ (o : ByteArray) (m : Nat), o ++ brks (m + 1) = T → (o ++ ⟨#[10]⟩) ++ brks m = T) := fun o m h => by rw [← h, brks, app_assoc]; rfl
theorem drop_ss {ss : List ByteArray} {k : Nat} {p : ByteArray} (h : ss[k]? = some p) : ss.drop k = p :: ss.drop (k + 1) := by
  have hl : k < ss.length := by
    rcases Nat.lt_or_ge k ss.length with h' | h'
    · exact h'
    · rw [List.getElem?_eq_none h'] at h; cases h
  rw [List.drop_eq_getElem_cons hl]
  congr 1
  rw [List.getElem?_eq_getElem hl] at h
  simpa using h
/-- The number of the last line that isn't empty, or -1. -/
def laI : Option (Nat × ByteArray) → Int
  | none => -1
  | some p => (p.1 : Int)
theorem fb_skip {x : ByteArray} {t : List ByteArray} {out : ByteArray} {n : Nat} {l : Option ByteArray} (h : x = ByteArray.empty) : fbGo (x :: t) out n l = fbGo t out (n + 1) l := by
  cases l <;> rw [fbGo, if_pos h]
theorem fb_none {x : ByteArray} {t : List ByteArray} {out : ByteArray} {n : Nat} (h : x ≠ ByteArray.empty) : fbGo (x :: t) out n none = fbGo t (out ++ brks n ++ x) 0 (some x) := by
  rw [fbGo, if_neg h]
theorem fb_far {x y : ByteArray} {t : List ByteArray} {out : ByteArray} {n : Nat} (h : x ≠ ByteArray.empty) (hf : (farS x || farS y) = true) : fbGo (x :: t) out n (some y) = fbGo t (out ++ brks (n + 1) ++ x) 0 (some x) := by
  rw [fbGo, if_neg h]
  show (if (farS x || farS y) = true then _ else _) = _
  rw [if_pos hf]
theorem fb_near {x y : ByteArray} {t : List ByteArray} {out : ByteArray} {n : Nat} (h : x ≠ ByteArray.empty) (hf : (farS x || farS y) = false) : fbGo (x :: t) out n (some y) = fbGo t ((if n = 0 then out ++ b32 else out) ++ brks n ++ x) 0 (some x) := by
  rw [fbGo, if_neg h]
  show (if (farS x || farS y) = true then _ else _) = _
  rw [if_neg (by rw [hf]; simp)]
set_option maxHeartbeats 8000000 in
theorem spec_foldBlock (w : World) (v : Value) (ss : List ByteArray) (hV : SlS w v ss) (hl : totS ss + ss.length ≤ 8388608) :
    Calls Try.prog 9 #[v] w fun e w' => e = .returned (.string (foldBlock ss)) ∧ Below w.heap.size w w' := by
  obtain ⟨a, c, rfl⟩ := hV.sl
  have HV : Hid (SlS w (.slice a ss.length c) ss) := hV
  have hL : ss.length ≤ 8388608 := by omega
  have HT : Hid (totS ss ≤ 8388608) := by show totS ss ≤ 8388608; omega
  clear hV hl
  obtain ⟨R, hR⟩ : ∃ R, foldBlock ss = R := ⟨_, rfl⟩
  have HR : Hid (foldBlock ss = R) := hR
  rw [hR]
  clear hR
  go_enter Try.func9, Try.ntmps9
  go_wp2_with fail
  go_loopw [3, 4, 5, 10] (fun ov nv lv iv wr => ∃ (k n : Nat) (la : Option (Nat × ByteArray)) (out : ByteArray), k ≤ ss.length ∧ iv = .int .i64 k ∧ ov = .string out ∧ nv = .int .i64 n ∧ lv = .int .i64 (laI la) ∧ Hid (∀ j y, la = some (j, y) → ss[j]? = some y) ∧ Hid (fbGo (ss.drop k) out n (la.map (·.2)) = R) ∧ Hid (out.size + n ≤ totS (ss.take k) + 2 * k) ∧ Below w.heap.size w wr) (fun _ _ _ iv _ => ss.length - (intOf iv).toNat)
  case atStart =>
    refine ⟨0, 0, none, _, Nat.zero_le _, rfl, rfl, rfl, rfl, fun j y h => (by cases h), ?_, ?_, Below.refl _ _⟩
    · show fbGo (ss.drop 0) ByteArray.empty 0 none = R
      rw [List.drop_zero]; exact HR.out
    · show ByteArray.empty.size + 0 ≤ _
      exact Nat.zero_le _
  case round =>
    obtain ⟨k, n, la, out, hk, rfl, rfl, rfl, rfl, HLA, HG, HS, hb⟩ := hrel
    by_cases hlt : k < ss.length
    · obtain ⟨x, hx⟩ : ∃ h, ss[k]? = some h := ⟨_, List.getElem?_eq_getElem hlt⟩
      obtain ⟨b, off, rfl, c1⟩ := HV.out.cells hb hx
      have hlt' : (k : Int) < (ss.length : Int) := by omega
      have HTT : Hid (totS (ss.take (k + 1)) = totS (ss.take k) + x.size) := totS_take hx
      have hts : x.size ≤ 8388608 := by have := totS_mem (List.mem_of_getElem? hx); have := HT.out; omega
      have hos : out.size + n ≤ 33554432 := by have h1 := HS.out; have h2 := totS_le ss k; have h3 := HT.out; omega
      have HD : Hid (ss.drop k = x :: ss.drop (k + 1)) := drop_ss hx
      have HLX : Hid (∀ j y, some (k, x) = some (j, y) → ss[j]? = some y) := fun j y h => by
        injection h with h
        injection h with h1 h2
        subst h1
        subst h2
        exact hx
      clear hx
      by_cases hc : x = ByteArray.empty
      · have hE : (x.toList == []) = true := by rw [hc]; exact empty_list
        have HG2 : Hid (fbGo (ss.drop (k + 1)) out (n + 1) (la.map (·.2)) = R) := by
          show fbGo (ss.drop (k + 1)) out (n + 1) (la.map (·.2)) = R
          rw [← HG.out, HD.out, fb_skip hc]
        have HS2 : Hid (out.size + (n + 1) ≤ totS (ss.take (k + 1)) + 2 * (k + 1)) := by
          have := HS.out; have := HTT.out
          show out.size + (n + 1) ≤ _
          omega
        clear HG HS HTT HD hc HLX
        obtain ⟨lz, hlz⟩ : ∃ lz, laI la = lz := ⟨_, rfl⟩
        have LZ : Value.int .i64 lz = .int .i64 (laI la) := by rw [hlz]
        rw [hlz]
        have LZ' : Hid (Value.int .i64 lz = .int .i64 (laI la)) := LZ
        clear hlz LZ
        go_wp2_with fail
        go_roundw
        case rel => exact ⟨k + 1, n + 1, la, out, hlt, by go_num, rfl, by go_num, LZ'.out, HLA, HG2, HS2, hb⟩
        case measure => simp [intOf]; omega
      · have hE := nonempty_list hc
        cases la with
        | none =>
          obtain ⟨T, hT⟩ : ∃ T, out ++ brks n = T := ⟨_, rfl⟩
          have HT1 : Hid (out ++ brks n = T) := hT
          have HG2 : Hid (fbGo (ss.drop (k + 1)) (T ++ x) 0 (some x) = R) := by
            show fbGo (ss.drop (k + 1)) (T ++ x) 0 (some x) = R
            rw [← HG.out, HD.out, ← hT]
            rw [show (none : Option (Nat × ByteArray)).map (·.2) = none from rfl, fb_none hc]
          have HZ2 : Hid ((T ++ x).size + 0 ≤ totS (ss.take (k + 1)) + 2 * (k + 1)) := by
            have h2 := HS.out
            have h3 := HTT.out
            show (T ++ x).size + 0 ≤ _
            rw [← hT, ByteArray.size_append, ByteArray.size_append, brks_size]
            try rw [ByteArray.size_append, show b32.size = 1 from rfl]
            omega
          have hTs : T.size ≤ 33554440 := by
            rw [← hT, ByteArray.size_append, brks_size]
            try rw [ByteArray.size_append, show b32.size = 1 from rfl]
            omega
          clear hT HG HS HTT HD
          have e1 : laI none = -1 := rfl
          rw [e1]
          clear hc e1
          go_wp2_with fail
          go_loop [3, 4] (fun ov nv => ∃ (m : Nat) (o : ByteArray), nv = .int .i64 m ∧ ov = .string o ∧ o.size + m ≤ 33554440 ∧ Hid (o ++ brks m = T)) (fun _ nv => (intOf nv).toNat)
          case atStart => exact ⟨_, _, by go_num, rfl, by first | omega | (simp only [ByteArray.size_append]; show _ + 1 + 0 ≤ _; omega), HT1⟩
          case round =>
            obtain ⟨m, o, rfl, rfl, hoz, HOM⟩ := hrel
            cases m with
            | zero =>
              obtain rfl := (FIN T).out o HOM.out
              go_wp2_with fail
              go_roundw
              case rel => exact ⟨k + 1, 0, some (k, x), _, hlt, by go_num, rfl, rfl, rfl, HLX, HG2, HZ2, hb⟩
              case measure => simp [intOf]; omega
            | succ m =>
              have HM2 : Hid ((o ++ ⟨#[10]⟩) ++ brks m = T) := (STEP T).out o m HOM.out
              have hos2 : o.size ≤ 33554440 := by omega
              clear HOM
              go_wp2_with fail
              go_round
              case rel => exact ⟨m, _, by go_num, rfl, by rw [ByteArray.size_append]; show o.size + 1 + m ≤ _; omega, HM2⟩
              case measure => simp [intOf]
        | some p =>
          obtain ⟨j, y⟩ := p
          have hy := HLA.out j y rfl
          have hjl : j < ss.length := by
            rcases Nat.lt_or_ge j ss.length with h' | h'
            · exact h'
            · rw [List.getElem?_eq_none h'] at hy; cases hy
          have e1 : laI (some (j, y)) = (j : Int) := rfl
          rw [e1]
          have hj0 : (0 : Int) ≤ (j : Int) := by omega
          have hjl' : (j : Int) < (ss.length : Int) := by omega
          obtain ⟨b', off', e2, c2⟩ := HV.out.cells hb hy
          injection e2 with e2
          injection e2 with e3 e4
          subst e3
          subst e4
          clear e1 hy HLA
          have em : (some (j, y) : Option (Nat × ByteArray)).map (·.2) = some y := rfl
          rw [em] at HG
          clear em
          cases hfx : farS x with
          | true =>
            have cF := far_ x wr true hfx
            obtain ⟨T, hT⟩ : ∃ T, out ++ brks (n + 1) = T := ⟨_, rfl⟩
            have HT1 : Hid (out ++ brks (n + 1) = T) := hT
            have HG2 : Hid (fbGo (ss.drop (k + 1)) (T ++ x) 0 (some x) = R) := by
              show fbGo (ss.drop (k + 1)) (T ++ x) 0 (some x) = R
              rw [← HG.out, HD.out, ← hT]
              rw [fb_far hc (by rw [hfx]; rfl)]
            have HZ2 : Hid ((T ++ x).size + 0 ≤ totS (ss.take (k + 1)) + 2 * (k + 1)) := by
              have h2 := HS.out
              have h3 := HTT.out
              show (T ++ x).size + 0 ≤ _
              rw [← hT, ByteArray.size_append, ByteArray.size_append, brks_size]
              try rw [ByteArray.size_append, show b32.size = 1 from rfl]
              omega
            have hTs : T.size ≤ 33554440 := by
              rw [← hT, ByteArray.size_append, brks_size]
              try rw [ByteArray.size_append, show b32.size = 1 from rfl]
              omega
            clear hT HG HS HTT HD
            clear hc hfx c2
            go_wp2_with fail
            refine cF.mono ?_
            rintro e w1 ⟨rfl, rfl⟩
            clear cF
            go_wp2_with fail
            go_loop [3, 4] (fun ov nv => ∃ (m : Nat) (o : ByteArray), nv = .int .i64 m ∧ ov = .string o ∧ o.size + m ≤ 33554440 ∧ Hid (o ++ brks m = T)) (fun _ nv => (intOf nv).toNat)
            case atStart => exact ⟨_, _, by go_num, rfl, by first | omega | (simp only [ByteArray.size_append]; show _ + 1 + 0 ≤ _; omega), HT1⟩
            case round =>
              obtain ⟨m, o, rfl, rfl, hoz, HOM⟩ := hrel
              cases m with
              | zero =>
                obtain rfl := (FIN T).out o HOM.out
                go_wp2_with fail
                go_roundw
                case rel => exact ⟨k + 1, 0, some (k, x), _, hlt, by go_num, rfl, rfl, rfl, HLX, HG2, HZ2, hb⟩
                case measure => simp [intOf]; omega
              | succ m =>
                have HM2 : Hid ((o ++ ⟨#[10]⟩) ++ brks m = T) := (STEP T).out o m HOM.out
                have hos2 : o.size ≤ 33554440 := by omega
                clear HOM
                go_wp2_with fail
                go_round
                case rel => exact ⟨m, _, by go_num, rfl, by rw [ByteArray.size_append]; show o.size + 1 + m ≤ _; omega, HM2⟩
                case measure => simp [intOf]
          | false =>
            have cF := far_ x wr false hfx
            cases hfy : farS y with
            | true =>
              have cY := far_ y wr true hfy
              obtain ⟨T, hT⟩ : ∃ T, out ++ brks (n + 1) = T := ⟨_, rfl⟩
              have HT1 : Hid (out ++ brks (n + 1) = T) := hT
              have HG2 : Hid (fbGo (ss.drop (k + 1)) (T ++ x) 0 (some x) = R) := by
                show fbGo (ss.drop (k + 1)) (T ++ x) 0 (some x) = R
                rw [← HG.out, HD.out, ← hT]
                rw [fb_far hc (by rw [hfx, hfy]; rfl)]
              have HZ2 : Hid ((T ++ x).size + 0 ≤ totS (ss.take (k + 1)) + 2 * (k + 1)) := by
                have h2 := HS.out
                have h3 := HTT.out
                show (T ++ x).size + 0 ≤ _
                rw [← hT, ByteArray.size_append, ByteArray.size_append, brks_size]
                try rw [ByteArray.size_append, show b32.size = 1 from rfl]
                omega
              have hTs : T.size ≤ 33554440 := by
                rw [← hT, ByteArray.size_append, brks_size]
                try rw [ByteArray.size_append, show b32.size = 1 from rfl]
                omega
              clear hT HG HS HTT HD
              clear hc hfx hfy
              go_wp2_with fail
              refine cF.mono ?_
              rintro e w1 ⟨rfl, rfl⟩
              clear cF
              go_wp2_with fail
              refine cY.mono ?_
              rintro e w1 ⟨rfl, rfl⟩
              clear cY
              go_wp2_with fail
              go_loop [3, 4] (fun ov nv => ∃ (m : Nat) (o : ByteArray), nv = .int .i64 m ∧ ov = .string o ∧ o.size + m ≤ 33554440 ∧ Hid (o ++ brks m = T)) (fun _ nv => (intOf nv).toNat)
              case atStart => exact ⟨_, _, by go_num, rfl, by first | omega | (simp only [ByteArray.size_append]; show _ + 1 + 0 ≤ _; omega), HT1⟩
              case round =>
                obtain ⟨m, o, rfl, rfl, hoz, HOM⟩ := hrel
                cases m with
                | zero =>
                  obtain rfl := (FIN T).out o HOM.out
                  go_wp2_with fail
                  go_roundw
                  case rel => exact ⟨k + 1, 0, some (k, x), _, hlt, by go_num, rfl, rfl, rfl, HLX, HG2, HZ2, hb⟩
                  case measure => simp [intOf]; omega
                | succ m =>
                  have HM2 : Hid ((o ++ ⟨#[10]⟩) ++ brks m = T) := (STEP T).out o m HOM.out
                  have hos2 : o.size ≤ 33554440 := by omega
                  clear HOM
                  go_wp2_with fail
                  go_round
                  case rel => exact ⟨m, _, by go_num, rfl, by rw [ByteArray.size_append]; show o.size + 1 + m ≤ _; omega, HM2⟩
                  case measure => simp [intOf]
            | false =>
              have cY := far_ y wr false hfy
              by_cases hn : n = 0
              · subst hn
                obtain ⟨T, hT⟩ : ∃ T, (out ++ b32) ++ brks 0 = T := ⟨_, rfl⟩
                have HT1 : Hid ((out ++ b32) ++ brks 0 = T) := hT
                have HG2 : Hid (fbGo (ss.drop (k + 1)) (T ++ x) 0 (some x) = R) := by
                  show fbGo (ss.drop (k + 1)) (T ++ x) 0 (some x) = R
                  rw [← HG.out, HD.out, ← hT]
                  rw [fb_near hc (by rw [hfx, hfy]; rfl), if_pos rfl]
                have HZ2 : Hid ((T ++ x).size + 0 ≤ totS (ss.take (k + 1)) + 2 * (k + 1)) := by
                  have h2 := HS.out
                  have h3 := HTT.out
                  show (T ++ x).size + 0 ≤ _
                  rw [← hT, ByteArray.size_append, ByteArray.size_append, brks_size]
                  try rw [ByteArray.size_append, show b32.size = 1 from rfl]
                  omega
                have hTs : T.size ≤ 33554440 := by
                  rw [← hT, ByteArray.size_append, brks_size]
                  try rw [ByteArray.size_append, show b32.size = 1 from rfl]
                  omega
                clear hT HG HS HTT HD
                clear hc hfx hfy
                go_wp2_with fail
                refine cF.mono ?_
                rintro e w1 ⟨rfl, rfl⟩
                clear cF
                go_wp2_with fail
                refine cY.mono ?_
                rintro e w1 ⟨rfl, rfl⟩
                clear cY
                go_wp2_with fail
                go_loop [3, 4] (fun ov nv => ∃ (m : Nat) (o : ByteArray), nv = .int .i64 m ∧ ov = .string o ∧ o.size + m ≤ 33554440 ∧ Hid (o ++ brks m = T)) (fun _ nv => (intOf nv).toNat)
                case atStart => exact ⟨_, _, by go_num, rfl, by first | omega | (simp only [ByteArray.size_append]; show _ + 1 + 0 ≤ _; omega), HT1⟩
                case round =>
                  obtain ⟨m, o, rfl, rfl, hoz, HOM⟩ := hrel
                  cases m with
                  | zero =>
                    obtain rfl := (FIN T).out o HOM.out
                    go_wp2_with fail
                    go_roundw
                    case rel => exact ⟨k + 1, 0, some (k, x), _, hlt, by go_num, rfl, rfl, rfl, HLX, HG2, HZ2, hb⟩
                    case measure => simp [intOf]; omega
                  | succ m =>
                    have HM2 : Hid ((o ++ ⟨#[10]⟩) ++ brks m = T) := (STEP T).out o m HOM.out
                    have hos2 : o.size ≤ 33554440 := by omega
                    clear HOM
                    go_wp2_with fail
                    go_round
                    case rel => exact ⟨m, _, by go_num, rfl, by rw [ByteArray.size_append]; show o.size + 1 + m ≤ _; omega, HM2⟩
                    case measure => simp [intOf]
              · have hn' : ¬ (n : Int) = 0 := by omega
                obtain ⟨T, hT⟩ : ∃ T, out ++ brks n = T := ⟨_, rfl⟩
                have HT1 : Hid (out ++ brks n = T) := hT
                have HG2 : Hid (fbGo (ss.drop (k + 1)) (T ++ x) 0 (some x) = R) := by
                  show fbGo (ss.drop (k + 1)) (T ++ x) 0 (some x) = R
                  rw [← HG.out, HD.out, ← hT]
                  rw [fb_near hc (by rw [hfx, hfy]; rfl), if_neg hn]
                have HZ2 : Hid ((T ++ x).size + 0 ≤ totS (ss.take (k + 1)) + 2 * (k + 1)) := by
                  have h2 := HS.out
                  have h3 := HTT.out
                  show (T ++ x).size + 0 ≤ _
                  rw [← hT, ByteArray.size_append, ByteArray.size_append, brks_size]
                  try rw [ByteArray.size_append, show b32.size = 1 from rfl]
                  omega
                have hTs : T.size ≤ 33554440 := by
                  rw [← hT, ByteArray.size_append, brks_size]
                  try rw [ByteArray.size_append, show b32.size = 1 from rfl]
                  omega
                clear hT HG HS HTT HD
                clear hc hfx hfy hn
                go_wp2_with fail
                refine cF.mono ?_
                rintro e w1 ⟨rfl, rfl⟩
                clear cF
                go_wp2_with fail
                refine cY.mono ?_
                rintro e w1 ⟨rfl, rfl⟩
                clear cY
                go_wp2_with fail
                go_loop [3, 4] (fun ov nv => ∃ (m : Nat) (o : ByteArray), nv = .int .i64 m ∧ ov = .string o ∧ o.size + m ≤ 33554440 ∧ Hid (o ++ brks m = T)) (fun _ nv => (intOf nv).toNat)
                case atStart => exact ⟨_, _, by go_num, rfl, by first | omega | (simp only [ByteArray.size_append]; show _ + 1 + 0 ≤ _; omega), HT1⟩
                case round =>
                  obtain ⟨m, o, rfl, rfl, hoz, HOM⟩ := hrel
                  cases m with
                  | zero =>
                    obtain rfl := (FIN T).out o HOM.out
                    go_wp2_with fail
                    go_roundw
                    case rel => exact ⟨k + 1, 0, some (k, x), _, hlt, by go_num, rfl, rfl, rfl, HLX, HG2, HZ2, hb⟩
                    case measure => simp [intOf]; omega
                  | succ m =>
                    have HM2 : Hid ((o ++ ⟨#[10]⟩) ++ brks m = T) := (STEP T).out o m HOM.out
                    have hos2 : o.size ≤ 33554440 := by omega
                    clear HOM
                    go_wp2_with fail
                    go_round
                    case rel => exact ⟨m, _, by go_num, rfl, by rw [ByteArray.size_append]; show o.size + 1 + m ≤ _; omega, HM2⟩
                    case measure => simp [intOf]
    · obtain rfl : k = ss.length := by omega
      have HE : Hid (out = R) := by
        show out = R
        have := HG.out
        rw [List.drop_length] at this
        exact this
      generalize laI la = lz at *
      go_wp2_with fail
      go_ret
      rw [HE.out]
      exact ⟨rfl, hb⟩
end Go.Proofs.Ythlainjkpeioeaj
