/- Several texts in one: Thf Sfb Sbt Lfo. -/
import Derived.Test.YtjpcmmfmdoglkalGreatDoorSls
import Derived.Test.YtjpcmmfmdoglkalGreatDoorProg
import Derived.WalkLawsBesides
import Derived.WalkSpells
import Derived.WalkMore
import Derived.Deep.OwnRows
import Derived.Laws.MakeOwn
import Derived.Deep.RegionWith
import Derived.Deep.QuietTactic
import Derived.BigQuiet
import Derived.Deep.Light
import Derived.Test.YtjpcmmfmdoglkalGreatDoorSff
import Derived.Test.YtjpcmmfmdoglkalGreatDoorTpc
/- A list of texts that came in: how large it is, a copy of it in new memory, whether two are alike. -/
namespace Go.Proofs.YtjpcmmfmdoglkalGreatDoor
open Go.ChangeShapes Go.WideShapes Go.ChangeAt Go.RowKit Go.Deep
def SzS (ss : List ByteArray) (w : World) (e : Ending) (w' : World) : Prop :=
  (∃ r : Int, e = .returned (.int .i64 r) ∧ (r = -1 ∨ (0 ≤ r ∧ totS ss + ss.length ≤ 1048576))) ∧ Below w.heap.size w w'
def cellsS (ss : List ByteArray) : List Value := ss.map Value.string
def zS : Value := .string ByteArray.empty
theorem cellsS_step {rs : List ByteArray} {k : Nat} (hk : rs.length = k) (s : ByteArray) (j : Nat) :
    (if j = k then Value.string s else (cellsS rs)[j]?.getD zS) = (cellsS (rs ++ [s]))[j]?.getD zS := by
  unfold cellsS
  rw [List.map_append, List.getElem?_append, List.length_map, hk]
  by_cases h1 : j < k
  · rw [if_neg (by omega), if_pos h1]
  · rw [if_neg h1]
    by_cases h2 : j = k
    · rw [if_pos h2, h2, Nat.sub_self]; rfl
    · rw [if_neg h2, List.getElem?_eq_none (l := List.map Value.string rs) (by rw [List.length_map]; omega), List.getElem?_eq_none (l := List.map Value.string [s]) (by simp only [List.map_cons, List.map_nil, List.length_cons, List.length_nil]; omega)]
theorem infoS : (Tryz.prog.info? 9).map (fun i => (i.zero, i.size, i.bytes)) = some (some (.string ByteArray.empty), 1, 16) := by kernel_rfl
theorem infoS_parts : ∃ ti, Tryz.prog.info? 9 = some ti ∧ ti.zero = some (.string ByteArray.empty) ∧ ti.size = 1 ∧ ti.bytes = 16 := by
  have h := infoS
  cases e : Tryz.prog.info? 9 with
  | none => rw [e] at h; cases h
  | some ti =>
    rw [e] at h
    simp at h
    exact ⟨ti, rfl, h.1, h.2.1, h.2.2⟩
end Go.Proofs.YtjpcmmfmdoglkalGreatDoor
/- The contract of spec.FoldBlock. -/
namespace Go.Proofs.YtjpcmmfmdoglkalGreatDoor
open Go.ChangeShapes Go.WideShapes Go.ChangeAt Go.RowKit
theorem ret_bool' {a b : Bool} (h : a = b) : Ending.returned (.bool a) = .returned (.bool b) := by rw [h]
theorem white0_ (s : ByteArray) (w : World) (b : Bool) (hb : farS s = b) :
    Calls Tryz.prog 72 #[.string s, .int .i64 0] w fun e w' => e = .returned (.bool b) ∧ w' = w := by
  subst hb
  by_cases hlt : 0 < s.size
  · have hg : (s.data[0]!).toNat = (s[0]'hlt).toNat := by
      have : 0 < s.data.size := hlt
      rw [getElem!_pos s.data 0 this]; rfl
    have HP : Hid (farS s = (((s[0]'hlt).toNat : Int) == 32 || ((s[0]'hlt).toNat : Int) == 9)) := by
      show farS s = (((s[0]'hlt).toNat : Int) == 32 || ((s[0]'hlt).toNat : Int) == 9)
      unfold farS
      rw [hg, decide_eq_true hlt, Bool.true_and, Bool.eq_iff_iff]
      simp; omega
    rw [HP.out]
    clear hg HP
    have hlt' : (0 : Int) < (s.size : Int) := by omega
    by_cases h1 : (s[0]'hlt).toNat = 32
    · go_enter Tryz.func72, Tryz.ntmps72
      go_wp2_with fail
      go_ret
      refine ⟨ret_bool' ?_, rfl⟩
      simp [h1]
    · have h1' : (((s[0]'hlt).toNat : Int) == 32) = false := by rw [beq_eq_false_iff_ne]; omega
      clear h1
      go_enter Tryz.func72, Tryz.ntmps72
      go_wp2_with fail
      go_ret
      refine ⟨ret_bool' ?_, rfl⟩
      simp [h1']
  · have HP : Hid (farS s = false) := by
      show farS s = false
      unfold farS
      rw [decide_eq_false hlt]; rfl
    rw [HP.out]
    have hlt' : ¬ (0 : Int) < (s.size : Int) := by omega
    go_enter Tryz.func72, Tryz.ntmps72
    go_wp2_with fail
    go_ret
    exact ⟨rfl, rfl⟩
theorem far_ (s : ByteArray) (w : World) (b : Bool) (hb : farS s = b) :
    Calls Tryz.prog 224 #[.string s] w fun e w' => e = .returned (.bool b) ∧ w' = w := by
  go_enter Tryz.func224, Tryz.ntmps224
  go_wp2_with fail
  refine (white0_ s _ b hb).mono ?_
  rintro e w1 ⟨rfl, rfl⟩
  go_wp2_with fail
  go_ret
  exact ⟨rfl, rfl⟩
theorem FIN (T : ByteArray) : Hid (∀ (o : ByteArray), o ++ brks 0 = T → o = T) := fun o h => by rw [← h]; exact (app_empty o).symm
theorem STEP (T : ByteArray) : Hid (∀ (o : ByteArray) (m : Nat), o ++ brks (m + 1) = T → (o ++ ⟨#[10]⟩) ++ brks m = T) := fun o m h => by rw [← h, brks, app_assoc]; rfl
theorem drop_ss {ss : List ByteArray} {k : Nat} {p : ByteArray} (h : ss[k]? = some p) : ss.drop k = p :: ss.drop (k + 1) := by
  have hl : k < ss.length := by
    rcases Nat.lt_or_ge k ss.length with h' | h'
    · exact h'
    · rw [List.getElem?_eq_none h'] at h; cases h
  rw [List.drop_eq_getElem_cons hl]
  congr 1
  rw [List.getElem?_eq_getElem hl] at h
  simpa using h
/-- The number of the last line that isn't empty, or -1. -/
def laI : Option (Nat × ByteArray) → Int
  | none => -1
  | some p => (p.1 : Int)
theorem fb_skip {x : ByteArray} {t : List ByteArray} {out : ByteArray} {n : Nat} {l : Option ByteArray} (h : x = ByteArray.empty) : fbGo (x :: t) out n l = fbGo t out (n + 1) l := by
  cases l <;> rw [fbGo, if_pos h]
theorem fb_none {x : ByteArray} {t : List ByteArray} {out : ByteArray} {n : Nat} (h : x ≠ ByteArray.empty) : fbGo (x :: t) out n none = fbGo t (out ++ brks n ++ x) 0 (some x) := by
  rw [fbGo, if_neg h]
theorem fb_far {x y : ByteArray} {t : List ByteArray} {out : ByteArray} {n : Nat} (h : x ≠ ByteArray.empty) (hf : (farS x || farS y) = true) : fbGo (x :: t) out n (some y) = fbGo t (out ++ brks (n + 1) ++ x) 0 (some x) := by
  rw [fbGo, if_neg h]
  show (if (farS x || farS y) = true then _ else _) = _
  rw [if_pos hf]
theorem fb_near {x y : ByteArray} {t : List ByteArray} {out : ByteArray} {n : Nat} (h : x ≠ ByteArray.empty) (hf : (farS x || farS y) = false) : fbGo (x :: t) out n (some y) = fbGo t ((if n = 0 then out ++ b32 else out) ++ brks n ++ x) 0 (some x) := by
  rw [fbGo, if_neg h]
  show (if (farS x || farS y) = true then _ else _) = _
  rw [if_neg (by rw [hf]; simp)]
set_option maxHeartbeats 8000000 in
theorem spec_foldBlock (w : World) (v : Value) (ss : List ByteArray) (hV : SlS w v ss) (hl : totS ss + ss.length ≤ 8388608) :
    Calls Tryz.prog 200 #[v] w fun e w' => e = .returned (.string (foldBlock ss)) ∧ Below w.heap.size w w' := by
  obtain ⟨a, c, rfl⟩ := hV.sl
  have HV : Hid (SlS w (.slice a ss.length c) ss) := hV
  have hL : ss.length ≤ 8388608 := by omega
  have HT : Hid (totS ss ≤ 8388608) := by show totS ss ≤ 8388608; omega
  clear hV hl
  obtain ⟨R, hR⟩ : ∃ R, foldBlock ss = R := ⟨_, rfl⟩
  have HR : Hid (foldBlock ss = R) := hR
  rw [hR]
  clear hR
  go_enter Tryz.func200, Tryz.ntmps200
  go_wp2_with fail
  go_loopw [3, 4, 5, 10] (fun ov nv lv iv wr => ∃ (k n : Nat) (la : Option (Nat × ByteArray)) (out : ByteArray), k ≤ ss.length ∧ iv = .int .i64 k ∧ ov = .string out ∧ nv = .int .i64 n ∧ lv = .int .i64 (laI la) ∧ Hid (∀ j y, la = some (j, y) → ss[j]? = some y) ∧ Hid (fbGo (ss.drop k) out n (la.map (·.2)) = R) ∧ Hid (out.size + n ≤ totS (ss.take k) + 2 * k) ∧ Below w.heap.size w wr) (fun _ _ _ iv _ => ss.length - (intOf iv).toNat)
  case atStart =>
    refine ⟨0, 0, none, _, Nat.zero_le _, rfl, rfl, rfl, rfl, fun j y h => (by cases h), ?_, ?_, Below.refl _ _⟩
    · show fbGo (ss.drop 0) ByteArray.empty 0 none = R
      rw [List.drop_zero]; exact HR.out
    · show ByteArray.empty.size + 0 ≤ _
      exact Nat.zero_le _
  case round =>
    obtain ⟨k, n, la, out, hk, rfl, rfl, rfl, rfl, HLA, HG, HS, hb⟩ := hrel
    by_cases hlt : k < ss.length
    · obtain ⟨x, hx⟩ : ∃ h, ss[k]? = some h := ⟨_, List.getElem?_eq_getElem hlt⟩
      obtain ⟨b, off, rfl, c1⟩ := HV.out.cells hb hx
      have hlt' : (k : Int) < (ss.length : Int) := by omega
      have HTT : Hid (totS (ss.take (k + 1)) = totS (ss.take k) + x.size) := totS_take hx
      have hts : x.size ≤ 8388608 := by have := totS_mem (List.mem_of_getElem? hx); have := HT.out; omega
      have hos : out.size + n ≤ 33554432 := by have h1 := HS.out; have h2 := totS_le ss k; have h3 := HT.out; omega
      have HD : Hid (ss.drop k = x :: ss.drop (k + 1)) := drop_ss hx
      have HLX : Hid (∀ j y, some (k, x) = some (j, y) → ss[j]? = some y) := fun j y h => by
        injection h with h
        injection h with h1 h2
        subst h1
        subst h2
        exact hx
      clear hx
      by_cases hc : x = ByteArray.empty
      · have hE : (x.toList == []) = true := by rw [hc]; exact empty_list
        have HG2 : Hid (fbGo (ss.drop (k + 1)) out (n + 1) (la.map (·.2)) = R) := by
          show fbGo (ss.drop (k + 1)) out (n + 1) (la.map (·.2)) = R
          rw [← HG.out, HD.out, fb_skip hc]
        have HS2 : Hid (out.size + (n + 1) ≤ totS (ss.take (k + 1)) + 2 * (k + 1)) := by
          have := HS.out; have := HTT.out
          show out.size + (n + 1) ≤ _
          omega
        clear HG HS HTT HD hc HLX
        obtain ⟨lz, hlz⟩ : ∃ lz, laI la = lz := ⟨_, rfl⟩
        have LZ : Value.int .i64 lz = .int .i64 (laI la) := by rw [hlz]
        rw [hlz]
        have LZ' : Hid (Value.int .i64 lz = .int .i64 (laI la)) := LZ
        clear hlz LZ
        go_wp2_with fail
        go_roundw
        case rel => exact ⟨k + 1, n + 1, la, out, hlt, by go_num, rfl, by go_num, LZ'.out, HLA, HG2, HS2, hb⟩
        case measure => simp [intOf]; omega
      · have hE := nonempty_list hc
        cases la with
        | none =>
          obtain ⟨T, hT⟩ : ∃ T, out ++ brks n = T := ⟨_, rfl⟩
          have HT1 : Hid (out ++ brks n = T) := hT
          have HG2 : Hid (fbGo (ss.drop (k + 1)) (T ++ x) 0 (some x) = R) := by
            show fbGo (ss.drop (k + 1)) (T ++ x) 0 (some x) = R
            rw [← HG.out, HD.out, ← hT]
            rw [show (none : Option (Nat × ByteArray)).map (·.2) = none from rfl, fb_none hc]
          have HZ2 : Hid ((T ++ x).size + 0 ≤ totS (ss.take (k + 1)) + 2 * (k + 1)) := by
            have h2 := HS.out
            have h3 := HTT.out
            show (T ++ x).size + 0 ≤ _
            rw [← hT, ByteArray.size_append, ByteArray.size_append, brks_size]
            try rw [ByteArray.size_append, show b32.size = 1 from rfl]
            omega
          have hTs : T.size ≤ 33554440 := by
            rw [← hT, ByteArray.size_append, brks_size]
            try rw [ByteArray.size_append, show b32.size = 1 from rfl]
            omega
          clear hT HG HS HTT HD
          have e1 : laI none = -1 := rfl
          rw [e1]
          clear hc e1
          go_wp2_with fail
          go_loop [3, 4] (fun ov nv => ∃ (m : Nat) (o : ByteArray), nv = .int .i64 m ∧ ov = .string o ∧ o.size + m ≤ 33554440 ∧ Hid (o ++ brks m = T)) (fun _ nv => (intOf nv).toNat)
          case atStart => exact ⟨_, _, by go_num, rfl, by first | omega | (simp only [ByteArray.size_append]; show _ + 1 + 0 ≤ _; omega), HT1⟩
          case round =>
            obtain ⟨m, o, rfl, rfl, hoz, HOM⟩ := hrel
            cases m with
            | zero =>
              obtain rfl := (FIN T).out o HOM.out
              go_wp2_with fail
              go_roundw
              case rel => exact ⟨k + 1, 0, some (k, x), _, hlt, by go_num, rfl, rfl, rfl, HLX, HG2, HZ2, hb⟩
              case measure => simp [intOf]; omega
            | succ m =>
              have HM2 : Hid ((o ++ ⟨#[10]⟩) ++ brks m = T) := (STEP T).out o m HOM.out
              have hos2 : o.size ≤ 33554440 := by omega
              clear HOM
              go_wp2_with fail
              go_round
              case rel => exact ⟨m, _, by go_num, rfl, by rw [ByteArray.size_append]; show o.size + 1 + m ≤ _; omega, HM2⟩
              case measure => simp [intOf]
        | some p =>
          obtain ⟨j, y⟩ := p
          have hy := HLA.out j y rfl
          have hjl : j < ss.length := by
            rcases Nat.lt_or_ge j ss.length with h' | h'
            · exact h'
            · rw [List.getElem?_eq_none h'] at hy; cases hy
          have e1 : laI (some (j, y)) = (j : Int) := rfl
          rw [e1]
          have hj0 : (0 : Int) ≤ (j : Int) := by omega
          have hjl' : (j : Int) < (ss.length : Int) := by omega
          obtain ⟨b', off', e2, c2⟩ := HV.out.cells hb hy
          injection e2 with e2
          injection e2 with e3 e4
          subst e3
          subst e4
          clear e1 hy HLA
          have em : (some (j, y) : Option (Nat × ByteArray)).map (·.2) = some y := rfl
          rw [em] at HG
          clear em
          cases hfx : farS x with
          | true =>
            have cF := far_ x wr true hfx
            obtain ⟨T, hT⟩ : ∃ T, out ++ brks (n + 1) = T := ⟨_, rfl⟩
            have HT1 : Hid (out ++ brks (n + 1) = T) := hT
            have HG2 : Hid (fbGo (ss.drop (k + 1)) (T ++ x) 0 (some x) = R) := by
              show fbGo (ss.drop (k + 1)) (T ++ x) 0 (some x) = R
              rw [← HG.out, HD.out, ← hT]
              rw [fb_far hc (by rw [hfx]; rfl)]
            have HZ2 : Hid ((T ++ x).size + 0 ≤ totS (ss.take (k + 1)) + 2 * (k + 1)) := by
              have h2 := HS.out
              have h3 := HTT.out
              show (T ++ x).size + 0 ≤ _
              rw [← hT, ByteArray.size_append, ByteArray.size_append, brks_size]
              try rw [ByteArray.size_append, show b32.size = 1 from rfl]
              omega
            have hTs : T.size ≤ 33554440 := by
              rw [← hT, ByteArray.size_append, brks_size]
              try rw [ByteArray.size_append, show b32.size = 1 from rfl]
              omega
            clear hT HG HS HTT HD
            clear hc hfx c2
            go_wp2_with fail
            refine cF.mono ?_
            rintro e w1 ⟨rfl, rfl⟩
            clear cF
            go_wp2_with fail
            go_loop [3, 4] (fun ov nv => ∃ (m : Nat) (o : ByteArray), nv = .int .i64 m ∧ ov = .string o ∧ o.size + m ≤ 33554440 ∧ Hid (o ++ brks m = T)) (fun _ nv => (intOf nv).toNat)
            case atStart => exact ⟨_, _, by go_num, rfl, by first | omega | (simp only [ByteArray.size_append]; show _ + 1 + 0 ≤ _; omega), HT1⟩
            case round =>
              obtain ⟨m, o, rfl, rfl, hoz, HOM⟩ := hrel
              cases m with
              | zero =>
                obtain rfl := (FIN T).out o HOM.out
                go_wp2_with fail
                go_roundw
                case rel => exact ⟨k + 1, 0, some (k, x), _, hlt, by go_num, rfl, rfl, rfl, HLX, HG2, HZ2, hb⟩
                case measure => simp [intOf]; omega
              | succ m =>
                have HM2 : Hid ((o ++ ⟨#[10]⟩) ++ brks m = T) := (STEP T).out o m HOM.out
                have hos2 : o.size ≤ 33554440 := by omega
                clear HOM
                go_wp2_with fail
                go_round
                case rel => exact ⟨m, _, by go_num, rfl, by rw [ByteArray.size_append]; show o.size + 1 + m ≤ _; omega, HM2⟩
                case measure => simp [intOf]
          | false =>
            have cF := far_ x wr false hfx
            cases hfy : farS y with
            | true =>
              have cY := far_ y wr true hfy
              obtain ⟨T, hT⟩ : ∃ T, out ++ brks (n + 1) = T := ⟨_, rfl⟩
              have HT1 : Hid (out ++ brks (n + 1) = T) := hT
              have HG2 : Hid (fbGo (ss.drop (k + 1)) (T ++ x) 0 (some x) = R) := by
                show fbGo (ss.drop (k + 1)) (T ++ x) 0 (some x) = R
                rw [← HG.out, HD.out, ← hT]
                rw [fb_far hc (by rw [hfx, hfy]; rfl)]
              have HZ2 : Hid ((T ++ x).size + 0 ≤ totS (ss.take (k + 1)) + 2 * (k + 1)) := by
                have h2 := HS.out
                have h3 := HTT.out
                show (T ++ x).size + 0 ≤ _
                rw [← hT, ByteArray.size_append, ByteArray.size_append, brks_size]
                try rw [ByteArray.size_append, show b32.size = 1 from rfl]
                omega
              have hTs : T.size ≤ 33554440 := by
                rw [← hT, ByteArray.size_append, brks_size]
                try rw [ByteArray.size_append, show b32.size = 1 from rfl]
                omega
              clear hT HG HS HTT HD
              clear hc hfx hfy
              go_wp2_with fail
              refine cF.mono ?_
              rintro e w1 ⟨rfl, rfl⟩
              clear cF
              go_wp2_with fail
              refine cY.mono ?_
              rintro e w1 ⟨rfl, rfl⟩
              clear cY
              go_wp2_with fail
              go_loop [3, 4] (fun ov nv => ∃ (m : Nat) (o : ByteArray), nv = .int .i64 m ∧ ov = .string o ∧ o.size + m ≤ 33554440 ∧ Hid (o ++ brks m = T)) (fun _ nv => (intOf nv).toNat)
              case atStart => exact ⟨_, _, by go_num, rfl, by first | omega | (simp only [ByteArray.size_append]; show _ + 1 + 0 ≤ _; omega), HT1⟩
              case round =>
                obtain ⟨m, o, rfl, rfl, hoz, HOM⟩ := hrel
                cases m with
                | zero =>
                  obtain rfl := (FIN T).out o HOM.out
                  go_wp2_with fail
                  go_roundw
                  case rel => exact ⟨k + 1, 0, some (k, x), _, hlt, by go_num, rfl, rfl, rfl, HLX, HG2, HZ2, hb⟩
                  case measure => simp [intOf]; omega
                | succ m =>
                  have HM2 : Hid ((o ++ ⟨#[10]⟩) ++ brks m = T) := (STEP T).out o m HOM.out
                  have hos2 : o.size ≤ 33554440 := by omega
                  clear HOM
                  go_wp2_with fail
                  go_round
                  case rel => exact ⟨m, _, by go_num, rfl, by rw [ByteArray.size_append]; show o.size + 1 + m ≤ _; omega, HM2⟩
                  case measure => simp [intOf]
            | false =>
              have cY := far_ y wr false hfy
              by_cases hn : n = 0
              · subst hn
                obtain ⟨T, hT⟩ : ∃ T, (out ++ b32) ++ brks 0 = T := ⟨_, rfl⟩
                have HT1 : Hid ((out ++ b32) ++ brks 0 = T) := hT
                have HG2 : Hid (fbGo (ss.drop (k + 1)) (T ++ x) 0 (some x) = R) := by
                  show fbGo (ss.drop (k + 1)) (T ++ x) 0 (some x) = R
                  rw [← HG.out, HD.out, ← hT]
                  rw [fb_near hc (by rw [hfx, hfy]; rfl), if_pos rfl]
                have HZ2 : Hid ((T ++ x).size + 0 ≤ totS (ss.take (k + 1)) + 2 * (k + 1)) := by
                  have h2 := HS.out
                  have h3 := HTT.out
                  show (T ++ x).size + 0 ≤ _
                  rw [← hT, ByteArray.size_append, ByteArray.size_append, brks_size]
                  try rw [ByteArray.size_append, show b32.size = 1 from rfl]
                  omega
                have hTs : T.size ≤ 33554440 := by
                  rw [← hT, ByteArray.size_append, brks_size]
                  try rw [ByteArray.size_append, show b32.size = 1 from rfl]
                  omega
                clear hT HG HS HTT HD
                clear hc hfx hfy
                go_wp2_with fail
                refine cF.mono ?_
                rintro e w1 ⟨rfl, rfl⟩
                clear cF
                go_wp2_with fail
                refine cY.mono ?_
                rintro e w1 ⟨rfl, rfl⟩
                clear cY
                go_wp2_with fail
                go_loop [3, 4] (fun ov nv => ∃ (m : Nat) (o : ByteArray), nv = .int .i64 m ∧ ov = .string o ∧ o.size + m ≤ 33554440 ∧ Hid (o ++ brks m = T)) (fun _ nv => (intOf nv).toNat)
                case atStart => exact ⟨_, _, by go_num, rfl, by first | omega | (simp only [ByteArray.size_append]; show _ + 1 + 0 ≤ _; omega), HT1⟩
                case round =>
                  obtain ⟨m, o, rfl, rfl, hoz, HOM⟩ := hrel
                  cases m with
                  | zero =>
                    obtain rfl := (FIN T).out o HOM.out
                    go_wp2_with fail
                    go_roundw
                    case rel => exact ⟨k + 1, 0, some (k, x), _, hlt, by go_num, rfl, rfl, rfl, HLX, HG2, HZ2, hb⟩
                    case measure => simp [intOf]; omega
                  | succ m =>
                    have HM2 : Hid ((o ++ ⟨#[10]⟩) ++ brks m = T) := (STEP T).out o m HOM.out
                    have hos2 : o.size ≤ 33554440 := by omega
                    clear HOM
                    go_wp2_with fail
                    go_round
                    case rel => exact ⟨m, _, by go_num, rfl, by rw [ByteArray.size_append]; show o.size + 1 + m ≤ _; omega, HM2⟩
                    case measure => simp [intOf]
              · have hn' : ¬ (n : Int) = 0 := by omega
                obtain ⟨T, hT⟩ : ∃ T, out ++ brks n = T := ⟨_, rfl⟩
                have HT1 : Hid (out ++ brks n = T) := hT
                have HG2 : Hid (fbGo (ss.drop (k + 1)) (T ++ x) 0 (some x) = R) := by
                  show fbGo (ss.drop (k + 1)) (T ++ x) 0 (some x) = R
                  rw [← HG.out, HD.out, ← hT]
                  rw [fb_near hc (by rw [hfx, hfy]; rfl), if_neg hn]
                have HZ2 : Hid ((T ++ x).size + 0 ≤ totS (ss.take (k + 1)) + 2 * (k + 1)) := by
                  have h2 := HS.out
                  have h3 := HTT.out
                  show (T ++ x).size + 0 ≤ _
                  rw [← hT, ByteArray.size_append, ByteArray.size_append, brks_size]
                  try rw [ByteArray.size_append, show b32.size = 1 from rfl]
                  omega
                have hTs : T.size ≤ 33554440 := by
                  rw [← hT, ByteArray.size_append, brks_size]
                  try rw [ByteArray.size_append, show b32.size = 1 from rfl]
                  omega
                clear hT HG HS HTT HD
                clear hc hfx hfy hn
                go_wp2_with fail
                refine cF.mono ?_
                rintro e w1 ⟨rfl, rfl⟩
                clear cF
                go_wp2_with fail
                refine cY.mono ?_
                rintro e w1 ⟨rfl, rfl⟩
                clear cY
                go_wp2_with fail
                go_loop [3, 4] (fun ov nv => ∃ (m : Nat) (o : ByteArray), nv = .int .i64 m ∧ ov = .string o ∧ o.size + m ≤ 33554440 ∧ Hid (o ++ brks m = T)) (fun _ nv => (intOf nv).toNat)
                case atStart => exact ⟨_, _, by go_num, rfl, by first | omega | (simp only [ByteArray.size_append]; show _ + 1 + 0 ≤ _; omega), HT1⟩
                case round =>
                  obtain ⟨m, o, rfl, rfl, hoz, HOM⟩ := hrel
                  cases m with
                  | zero =>
                    obtain rfl := (FIN T).out o HOM.out
                    go_wp2_with fail
                    go_roundw
                    case rel => exact ⟨k + 1, 0, some (k, x), _, hlt, by go_num, rfl, rfl, rfl, HLX, HG2, HZ2, hb⟩
                    case measure => simp [intOf]; omega
                  | succ m =>
                    have HM2 : Hid ((o ++ ⟨#[10]⟩) ++ brks m = T) := (STEP T).out o m HOM.out
                    have hos2 : o.size ≤ 33554440 := by omega
                    clear HOM
                    go_wp2_with fail
                    go_round
                    case rel => exact ⟨m, _, by go_num, rfl, by rw [ByteArray.size_append]; show o.size + 1 + m ≤ _; omega, HM2⟩
                    case measure => simp [intOf]
    · obtain rfl : k = ss.length := by omega
      have HE : Hid (out = R) := by
        show out = R
        have := HG.out
        rw [List.drop_length] at this
        exact this
      generalize laI la = lz at *
      go_wp2_with fail
      go_ret
      rw [HE.out]
      exact ⟨rfl, hb⟩
end Go.Proofs.YtjpcmmfmdoglkalGreatDoor
/- The contract of spec.BlockText. -/
namespace Go.Proofs.YtjpcmmfmdoglkalGreatDoor
open Go.ChangeShapes Go.WideShapes Go.ChangeAt Go.RowKit
theorem joinB_snoc : ∀ (l : List ByteArray) (x : ByteArray), joinB (l ++ [x]) = if l = [] then x else joinB l ++ b10 ++ x
  | [], x => rfl
  | [y], x => by
    show y ++ b10 ++ joinB [x] = _
    rw [if_neg (by simp)]
    rfl
  | y :: z :: t, x => by
    have ih := joinB_snoc (z :: t) x
    rw [if_neg (by simp)] at ih
    rw [if_neg (by simp)]
    show y ++ b10 ++ joinB (z :: t ++ [x]) = (y ++ b10 ++ joinB (z :: t)) ++ b10 ++ x
    rw [ih]
    simp only [app_assoc]
theorem joinB_size : ∀ l : List ByteArray, (joinB l).size ≤ totS l + l.length
  | [] => Nat.le_refl _
  | [x] => by show x.size ≤ x.size + 0 + 1; omega
  | x :: y :: t => by
    have ih := joinB_size (y :: t)
    show (x ++ b10 ++ joinB (y :: t)).size ≤ x.size + totS (y :: t) + (y :: t).length + 1
    rw [ByteArray.size_append, ByteArray.size_append, show b10.size = 1 from rfl]
    omega
theorem fb_size : ∀ (l : List ByteArray) (out : ByteArray) (n : Nat) (y : Option ByteArray), (fbGo l out n y).size ≤ out.size + n + totS l + 2 * l.length
  | [], out, n, y => by show out.size ≤ _; omega
  | x :: t, out, n, y => by
    by_cases hx : x = ByteArray.empty
    · rw [fb_skip hx]
      have := fb_size t out (n + 1) y
      simp only [totS, List.length_cons]
      omega
    · cases y with
      | none =>
        rw [fb_none hx]
        have := fb_size t (out ++ brks n ++ x) 0 (some x)
        simp only [ByteArray.size_append, brks_size] at this
        simp only [totS, List.length_cons]
        omega
      | some y =>
        cases hf : farS x || farS y with
        | true =>
          rw [fb_far hx hf]
          have := fb_size t (out ++ brks (n + 1) ++ x) 0 (some x)
          simp only [ByteArray.size_append, brks_size] at this
          simp only [totS, List.length_cons]
          omega
        | false =>
          rw [fb_near hx hf]
          have := fb_size t ((if n = 0 then out ++ b32 else out) ++ brks n ++ x) 0 (some x)
          simp only [ByteArray.size_append, brks_size] at this
          have h2 : (if n = 0 then out ++ b32 else out).size ≤ out.size + 1 := by
            split
            · rw [ByteArray.size_append]; exact Nat.le_refl _
            · omega
          simp only [totS, List.length_cons]
          omega
theorem endB_fix {l : List ByteArray} {k : Nat} (h : k = 0 ∨ ∃ x, l[k - 1]? = some x ∧ x ≠ ByteArray.empty) : endB l k = k := by
  rcases h with rfl | ⟨x, hx, hne⟩
  · rfl
  · cases k with
    | zero => rfl
    | succ k =>
      rw [Nat.add_sub_cancel] at hx
      unfold endB
      rw [List.getD_eq_getElem?_getD, hx]
      show (if x = ByteArray.empty then _ else _) = _
      rw [if_neg hne]
theorem endB_step {l : List ByteArray} {k : Nat} {x : ByteArray} (hx : l[k]? = some x) (he : x = ByteArray.empty) : endB l (k + 1) = endB l k := by
  rw [endB, List.getD_eq_getElem?_getD, hx]
  show (if x = ByteArray.empty then _ else _) = _
  rw [if_pos he]
/-- What is put behind the lines. -/
def tailB (E : Nat) (ch : Int) (B : ByteArray) : ByteArray := if 0 < E ∧ ch ≠ 1 then B ++ b10 else B
def restN (L E : Nat) (ch : Int) : Nat := if ch = 2 then L - E else 0
theorem blockText_eq (ss : List ByteArray) (fd : Bool) (ch : Int) : blockText ss fd ch = tailB (endB ss ss.length) ch (if fd = true then foldBlock (ss.take (endB ss ss.length)) else joinB (ss.take (endB ss ss.length))) ++ brks (restN ss.length (endB ss ss.length) ch) := by
  unfold blockText tailB restN
  by_cases h1 : 0 < endB ss ss.length ∧ ch ≠ 1
  · rw [if_pos h1, if_pos h1]
    by_cases h2 : ch = 2
    · rw [if_pos h2, if_pos h2]
    · rw [if_neg h2, if_neg h2]; rfl
  · rw [if_neg h1, if_neg h1, app_empty]
    by_cases h2 : ch = 2
    · rw [if_pos h2, if_pos h2]
    · rw [if_neg h2, if_neg h2]; rfl
theorem tailB_zero {E : Nat} {ch : Int} {B : ByteArray} (h : ¬ (0 : Int) < (E : Int)) : tailB E ch B = B := by unfold tailB; rw [if_neg (by omega)]
theorem tailB_one {E : Nat} {ch : Int} {B : ByteArray} (h : (ch != 1) = false) : tailB E ch B = B := by unfold tailB; rw [if_neg (by simp at h; simp [h])]
theorem tailB_more {E : Nat} {ch : Int} {B : ByteArray} (h0 : (0 : Int) < (E : Int)) (h : (ch != 1) = true) : tailB E ch B = B ++ ⟨#[10]⟩ := by unfold tailB; rw [if_pos ⟨by omega, by simpa using h⟩]; rfl
theorem restN_two {L E : Nat} {ch : Int} (h : (ch == 2) = true) : restN L E ch = L - E := by unfold restN; rw [if_pos (by simpa using h)]
theorem restN_not {L E : Nat} {ch : Int} (h : (ch == 2) = false) : restN L E ch = 0 := by unfold restN; rw [if_neg (by simpa using h)]
set_option maxHeartbeats 16000000 in
theorem spec_bt_fold (w : World) (v : Value) (ss : List ByteArray) (ch : Int) (hV : SlS w v ss) (hl : totS ss + ss.length ≤ 8388608) :
    Calls Tryz.prog 174 #[v, .bool true, .int .i64 ch] w fun e w' => e = .returned (.string (blockText ss true ch)) ∧ Below w.heap.size w w' := by
  obtain ⟨a, c, rfl⟩ := hV.sl
  obtain ⟨E, hE⟩ : ∃ E, endB ss ss.length = E := ⟨_, rfl⟩
  have hEl : E ≤ ss.length := by rw [← hE]; exact endB_le _ _
  have hcap : E ≤ c := by
    by_cases h0 : ss = []
    · subst h0; simp at hEl; omega
    · have := hV.le h0; omega
  have hcap' : (E : Int) ≤ (c : Int) := by omega
  have hEn : (0 : Int) ≤ (E : Int) := by omega
  have hTk := hV.take E hEl
  have hTt := totS_le ss E
  have hL : ss.length ≤ 8388608 := by omega
  have HE : Hid (endB ss ss.length = E) := hE
  have htl : (ss.take E).length = E := by rw [List.length_take]; omega
  have HTL : Hid ((ss.take E).length = E) := htl
  have HBT : Hid (totS (ss.take E) + (ss.take E).length ≤ 8388608) := by show totS (ss.take E) + (ss.take E).length ≤ 8388608; omega
  obtain ⟨R, hR⟩ : ∃ R, blockText ss true ch = R := ⟨_, rfl⟩
  have HR : Hid (tailB E ch (foldBlock (ss.take E)) ++ brks (restN ss.length E ch) = R) := by
    show tailB E ch (foldBlock (ss.take E)) ++ brks (restN ss.length E ch) = R
    rw [← hR, blockText_eq, hE]
    rfl
  rw [hR]
  clear hR hE hTt hl htl
  cases a with
  | none =>
    have HV : Hid (SlS w (.slice none ss.length c) ss) := hV
    have HTK : Hid (SlS w (.slice none E c) (ss.take E)) := hTk
    clear hV hTk
    go_enter Tryz.func174, Tryz.ntmps174
    go_wp2_with fail
    go_loop [7] (fun ev => ∃ k : Nat, k ≤ ss.length ∧ ev = .int .i64 k ∧ Hid (endB ss k = E)) (fun ev => (intOf ev).toNat)
    case atStart => exact ⟨ss.length, Nat.le_refl _, rfl, HE⟩
    case round =>
      obtain ⟨k, hk, rfl, HK⟩ := hrel
      by_cases h0 : k = 0
      · have hkE : E = k := by rw [← HK.out, h0]; rfl
        subst hkE
        have h0' : ¬ (0 : Int) < (E : Int) := by omega
        clear h0 HK
        have cF := spec_foldBlock w (.slice none E c) (ss.take E) HTK.out HBT.out
        obtain ⟨B, hB⟩ : ∃ B, foldBlock (ss.take E) = B := ⟨_, rfl⟩
        have hBz : B.size ≤ 33554432 := by
          rw [← hB]
          have h1 := fb_size (ss.take E) ByteArray.empty 0 none
          have h2 := HBT.out
          have h3 : ByteArray.empty.size = 0 := rfl
          have h4 : foldBlock (ss.take E) = fbGo (ss.take E) ByteArray.empty 0 none := rfl
          rw [h4]; omega
        rw [hB] at cF HR
        clear hB
        go_wp2_with fail
        refine cF.mono ?_
        rintro e w1 ⟨rfl, WB⟩
        clear cF
        have hB2 : B.size ≤ 33554432 := hBz
        have HB : Hid (B ++ brks (restN ss.length E ch) = R) := by
          show B ++ brks (restN ss.length E ch) = R
          rw [← HR.out, tailB_zero (by omega)]
        clear HR
        cases hc2 : ch == 2 with
        | true =>
          have hB' := HB.out
          rw [restN_two hc2] at hB'
          have HB' : Hid (_ = R) := hB'
          clear HB hB'
          go_wp2_with fail
          go_loop [8, 11] (fun ov iv => ∃ (i : Nat) (o : ByteArray), i ≤ ss.length ∧ iv = .int .i64 i ∧ ov = .string o ∧ o.size + (ss.length - i) ≤ 50331648 ∧ Hid (o ++ brks (ss.length - i) = R)) (fun _ iv => ss.length - (intOf iv).toNat)
          case atStart => exact ⟨E, _, hEl, by go_num, rfl, by first | omega | (simp only [ByteArray.size_append]; show _ + 1 + _ ≤ _; omega), HB'⟩
          case round =>
            obtain ⟨i, o, hi, rfl, rfl, hoz, HOM⟩ := hrel
            by_cases hil : i < ss.length
            · have hil' : (i : Int) < (ss.length : Int) := by omega
              have HM2 : Hid ((o ++ ⟨#[10]⟩) ++ brks (ss.length - (i + 1)) = R) := by
                have h := HOM.out
                rw [show ss.length - i = ss.length - (i + 1) + 1 by omega] at h
                exact (STEP R).out o _ h
              have ho2 : o.size ≤ 50331648 := by omega
              have hoz2 : (o ++ ⟨#[10]⟩).size + (ss.length - (i + 1)) ≤ 50331648 := by
                rw [ByteArray.size_append]
                show o.size + 1 + _ ≤ _
                omega
              have HOZ : Hid ((o ++ ⟨#[10]⟩).size + (ss.length - (i + 1)) ≤ 50331648) := hoz2
              clear HOM hoz hoz2
              go_wp2_with fail
              go_round
              case rel => exact ⟨i + 1, _, hil, by go_num, rfl, HOZ.out, HM2⟩
              case measure => simp [intOf]; omega
            · have hil' : ¬ (i : Int) < (ss.length : Int) := by omega
              have HO : Hid (o = R) := by
                have h := HOM.out
                rw [show ss.length - i = 0 by omega] at h
                exact (FIN R).out o h
              clear HOM hoz
              go_wp2_with fail
              go_ret
              rw [HO.out]
              exact ⟨rfl, WB⟩
        | false =>
          have hB' := HB.out
          rw [restN_not hc2] at hB'
          have HB' : Hid (_ = R) := (FIN R).out _ hB'
          clear HB hB'
          by_cases hil : E < ss.length
          · have hil' : (E : Int) < (ss.length : Int) := by omega
            go_wp2_with fail
            refine wp_loop_rounds 1 ?_
            rw [rounds_succ]
            go_wp2_with fail
            go_ret
            rw [HB'.out]
            exact ⟨rfl, WB⟩
          · have hil' : ¬ (E : Int) < (ss.length : Int) := by omega
            go_wp2_with fail
            refine wp_loop_rounds 1 ?_
            rw [rounds_succ]
            go_wp2_with fail
            go_ret
            rw [HB'.out]
            exact ⟨rfl, WB⟩
      · obtain ⟨x, hx⟩ : ∃ x, ss[k - 1]? = some x := ⟨_, List.getElem?_eq_getElem (by omega)⟩
        obtain ⟨j, hj⟩ : ∃ j, k = j + 1 := ⟨k - 1, by omega⟩
        have hx' : ss[j]? = some x := by rw [show j = k - 1 by omega]; exact hx
        obtain ⟨b, off, e2, c1⟩ := HV.out.cells (Below.refl _ _) hx'
        cases e2
  | some ad =>
    have HV : Hid (SlS w (.slice (some ad) ss.length c) ss) := hV
    have HTK : Hid (SlS w (.slice (some ad) E c) (ss.take E)) := hTk
    clear hV hTk
    go_enter Tryz.func174, Tryz.ntmps174
    go_wp2_with fail
    go_loop [7] (fun ev => ∃ k : Nat, k ≤ ss.length ∧ ev = .int .i64 k ∧ Hid (endB ss k = E)) (fun ev => (intOf ev).toNat)
    case atStart => exact ⟨ss.length, Nat.le_refl _, rfl, HE⟩
    case round =>
      obtain ⟨k, hk, rfl, HK⟩ := hrel
      by_cases h0 : k = 0
      · have hkE : E = k := by rw [← HK.out, h0]; rfl
        subst hkE
        have h0' : ¬ (0 : Int) < (E : Int) := by omega
        clear h0 HK
        have cF := spec_foldBlock w (.slice (some ad) E c) (ss.take E) HTK.out HBT.out
        obtain ⟨B, hB⟩ : ∃ B, foldBlock (ss.take E) = B := ⟨_, rfl⟩
        have hBz : B.size ≤ 33554432 := by
          rw [← hB]
          have h1 := fb_size (ss.take E) ByteArray.empty 0 none
          have h2 := HBT.out
          have h3 : ByteArray.empty.size = 0 := rfl
          have h4 : foldBlock (ss.take E) = fbGo (ss.take E) ByteArray.empty 0 none := rfl
          rw [h4]; omega
        rw [hB] at cF HR
        clear hB
        go_wp2_with fail
        refine cF.mono ?_
        rintro e w1 ⟨rfl, WB⟩
        clear cF
        have hB2 : B.size ≤ 33554432 := hBz
        have HB : Hid (B ++ brks (restN ss.length E ch) = R) := by
          show B ++ brks (restN ss.length E ch) = R
          rw [← HR.out, tailB_zero (by omega)]
        clear HR
        cases hc2 : ch == 2 with
        | true =>
          have hB' := HB.out
          rw [restN_two hc2] at hB'
          have HB' : Hid (_ = R) := hB'
          clear HB hB'
          go_wp2_with fail
          go_loop [8, 11] (fun ov iv => ∃ (i : Nat) (o : ByteArray), i ≤ ss.length ∧ iv = .int .i64 i ∧ ov = .string o ∧ o.size + (ss.length - i) ≤ 50331648 ∧ Hid (o ++ brks (ss.length - i) = R)) (fun _ iv => ss.length - (intOf iv).toNat)
          case atStart => exact ⟨E, _, hEl, by go_num, rfl, by first | omega | (simp only [ByteArray.size_append]; show _ + 1 + _ ≤ _; omega), HB'⟩
          case round =>
            obtain ⟨i, o, hi, rfl, rfl, hoz, HOM⟩ := hrel
            by_cases hil : i < ss.length
            · have hil' : (i : Int) < (ss.length : Int) := by omega
              have HM2 : Hid ((o ++ ⟨#[10]⟩) ++ brks (ss.length - (i + 1)) = R) := by
                have h := HOM.out
                rw [show ss.length - i = ss.length - (i + 1) + 1 by omega] at h
                exact (STEP R).out o _ h
              have ho2 : o.size ≤ 50331648 := by omega
              have hoz2 : (o ++ ⟨#[10]⟩).size + (ss.length - (i + 1)) ≤ 50331648 := by
                rw [ByteArray.size_append]
                show o.size + 1 + _ ≤ _
                omega
              have HOZ : Hid ((o ++ ⟨#[10]⟩).size + (ss.length - (i + 1)) ≤ 50331648) := hoz2
              clear HOM hoz hoz2
              go_wp2_with fail
              go_round
              case rel => exact ⟨i + 1, _, hil, by go_num, rfl, HOZ.out, HM2⟩
              case measure => simp [intOf]; omega
            · have hil' : ¬ (i : Int) < (ss.length : Int) := by omega
              have HO : Hid (o = R) := by
                have h := HOM.out
                rw [show ss.length - i = 0 by omega] at h
                exact (FIN R).out o h
              clear HOM hoz
              go_wp2_with fail
              go_ret
              rw [HO.out]
              exact ⟨rfl, WB⟩
        | false =>
          have hB' := HB.out
          rw [restN_not hc2] at hB'
          have HB' : Hid (_ = R) := (FIN R).out _ hB'
          clear HB hB'
          by_cases hil : E < ss.length
          · have hil' : (E : Int) < (ss.length : Int) := by omega
            go_wp2_with fail
            refine wp_loop_rounds 1 ?_
            rw [rounds_succ]
            go_wp2_with fail
            go_ret
            rw [HB'.out]
            exact ⟨rfl, WB⟩
          · have hil' : ¬ (E : Int) < (ss.length : Int) := by omega
            go_wp2_with fail
            refine wp_loop_rounds 1 ?_
            rw [rounds_succ]
            go_wp2_with fail
            go_ret
            rw [HB'.out]
            exact ⟨rfl, WB⟩
      · obtain ⟨x, hx⟩ : ∃ x, ss[k - 1]? = some x := ⟨_, List.getElem?_eq_getElem (by omega)⟩
        obtain ⟨j, hj⟩ : ∃ j, k = j + 1 := ⟨k - 1, by omega⟩
        have hx' : ss[j]? = some x := by rw [show j = k - 1 by omega]; exact hx
        obtain ⟨b, off, e2, c1⟩ := HV.out.cells (Below.refl _ _) hx'
        injection e2 with e2
        subst e2
        have e1 : (k : Int) - 1 = (j : Int) := by omega
        have h0' : (0 : Int) < (k : Int) := by omega
        have hjl : j < ss.length := by omega
        have hjl' : (j : Int) < (ss.length : Int) := by omega
        by_cases hxe : x = ByteArray.empty
        · have hX : (x.toList == []) = true := by rw [hxe]; exact empty_list
          have HK2 : Hid (endB ss j = E) := by show endB ss j = E; rw [← HK.out, hj, endB_step hx' hxe]
          clear hx hx' hxe HK h0
          go_wp2_with fail
          go_round
          case rel => exact ⟨j, by omega, by go_num, HK2⟩
          case measure => simp [intOf]; omega
        · have hX := nonempty_list hxe
          have hkE : E = k := by rw [← HK.out]; exact endB_fix (.inr ⟨x, hx, hxe⟩)
          subst hkE
          clear hx hx' hxe HK h0 hj
          have cF := spec_foldBlock w (.slice (some ⟨b, off, none⟩) E c) (ss.take E) HTK.out HBT.out
          obtain ⟨B, hB⟩ : ∃ B, foldBlock (ss.take E) = B := ⟨_, rfl⟩
          have hBz : B.size ≤ 33554432 := by
            rw [← hB]
            have h1 := fb_size (ss.take E) ByteArray.empty 0 none
            have h2 := HBT.out
            have h3 : ByteArray.empty.size = 0 := rfl
            have h4 : foldBlock (ss.take E) = fbGo (ss.take E) ByteArray.empty 0 none := rfl
            rw [h4]; omega
          rw [hB] at cF HR
          clear hB
          go_wp2_with fail
          refine cF.mono ?_
          rintro e w1 ⟨rfl, WB⟩
          clear cF
          have hB2 : B.size ≤ 33554432 := hBz
          cases hc1 : ch != 1 with
          | false =>
            have HB : Hid (B ++ brks (restN ss.length E ch) = R) := by
              show B ++ brks (restN ss.length E ch) = R
              rw [← HR.out, tailB_one hc1]
            clear HR
            cases hc2 : ch == 2 with
            | true =>
              have hB' := HB.out
              rw [restN_two hc2] at hB'
              have HB' : Hid (_ = R) := hB'
              clear HB hB'
              go_wp2_with fail
              go_loop [8, 11] (fun ov iv => ∃ (i : Nat) (o : ByteArray), i ≤ ss.length ∧ iv = .int .i64 i ∧ ov = .string o ∧ o.size + (ss.length - i) ≤ 50331648 ∧ Hid (o ++ brks (ss.length - i) = R)) (fun _ iv => ss.length - (intOf iv).toNat)
              case atStart => exact ⟨E, _, hEl, by go_num, rfl, by first | omega | (simp only [ByteArray.size_append]; show _ + 1 + _ ≤ _; omega), HB'⟩
              case round =>
                obtain ⟨i, o, hi, rfl, rfl, hoz, HOM⟩ := hrel
                by_cases hil : i < ss.length
                · have hil' : (i : Int) < (ss.length : Int) := by omega
                  have HM2 : Hid ((o ++ ⟨#[10]⟩) ++ brks (ss.length - (i + 1)) = R) := by
                    have h := HOM.out
                    rw [show ss.length - i = ss.length - (i + 1) + 1 by omega] at h
                    exact (STEP R).out o _ h
                  have ho2 : o.size ≤ 50331648 := by omega
                  have hoz2 : (o ++ ⟨#[10]⟩).size + (ss.length - (i + 1)) ≤ 50331648 := by
                    rw [ByteArray.size_append]
                    show o.size + 1 + _ ≤ _
                    omega
                  have HOZ : Hid ((o ++ ⟨#[10]⟩).size + (ss.length - (i + 1)) ≤ 50331648) := hoz2
                  clear HOM hoz hoz2
                  go_wp2_with fail
                  go_round
                  case rel => exact ⟨i + 1, _, hil, by go_num, rfl, HOZ.out, HM2⟩
                  case measure => simp [intOf]; omega
                · have hil' : ¬ (i : Int) < (ss.length : Int) := by omega
                  have HO : Hid (o = R) := by
                    have h := HOM.out
                    rw [show ss.length - i = 0 by omega] at h
                    exact (FIN R).out o h
                  clear HOM hoz
                  go_wp2_with fail
                  go_ret
                  rw [HO.out]
                  exact ⟨rfl, WB⟩
            | false =>
              have hB' := HB.out
              rw [restN_not hc2] at hB'
              have HB' : Hid (_ = R) := (FIN R).out _ hB'
              clear HB hB'
              by_cases hil : E < ss.length
              · have hil' : (E : Int) < (ss.length : Int) := by omega
                go_wp2_with fail
                refine wp_loop_rounds 1 ?_
                rw [rounds_succ]
                go_wp2_with fail
                go_ret
                rw [HB'.out]
                exact ⟨rfl, WB⟩
              · have hil' : ¬ (E : Int) < (ss.length : Int) := by omega
                go_wp2_with fail
                refine wp_loop_rounds 1 ?_
                rw [rounds_succ]
                go_wp2_with fail
                go_ret
                rw [HB'.out]
                exact ⟨rfl, WB⟩
          | true =>
            have HB : Hid ((B ++ ⟨#[10]⟩) ++ brks (restN ss.length E ch) = R) := by
              show (B ++ ⟨#[10]⟩) ++ brks (restN ss.length E ch) = R
              rw [← HR.out, tailB_more h0' hc1]
            clear HR
            cases hc2 : ch == 2 with
            | true =>
              have hB' := HB.out
              rw [restN_two hc2] at hB'
              have HB' : Hid (_ = R) := hB'
              clear HB hB'
              go_wp2_with fail
              go_loop [8, 11] (fun ov iv => ∃ (i : Nat) (o : ByteArray), i ≤ ss.length ∧ iv = .int .i64 i ∧ ov = .string o ∧ o.size + (ss.length - i) ≤ 50331648 ∧ Hid (o ++ brks (ss.length - i) = R)) (fun _ iv => ss.length - (intOf iv).toNat)
              case atStart => exact ⟨E, _, hEl, by go_num, rfl, by first | omega | (simp only [ByteArray.size_append]; show _ + 1 + _ ≤ _; omega), HB'⟩
              case round =>
                obtain ⟨i, o, hi, rfl, rfl, hoz, HOM⟩ := hrel
                by_cases hil : i < ss.length
                · have hil' : (i : Int) < (ss.length : Int) := by omega
                  have HM2 : Hid ((o ++ ⟨#[10]⟩) ++ brks (ss.length - (i + 1)) = R) := by
                    have h := HOM.out
                    rw [show ss.length - i = ss.length - (i + 1) + 1 by omega] at h
                    exact (STEP R).out o _ h
                  have ho2 : o.size ≤ 50331648 := by omega
                  have hoz2 : (o ++ ⟨#[10]⟩).size + (ss.length - (i + 1)) ≤ 50331648 := by
                    rw [ByteArray.size_append]
                    show o.size + 1 + _ ≤ _
                    omega
                  have HOZ : Hid ((o ++ ⟨#[10]⟩).size + (ss.length - (i + 1)) ≤ 50331648) := hoz2
                  clear HOM hoz hoz2
                  go_wp2_with fail
                  go_round
                  case rel => exact ⟨i + 1, _, hil, by go_num, rfl, HOZ.out, HM2⟩
                  case measure => simp [intOf]; omega
                · have hil' : ¬ (i : Int) < (ss.length : Int) := by omega
                  have HO : Hid (o = R) := by
                    have h := HOM.out
                    rw [show ss.length - i = 0 by omega] at h
                    exact (FIN R).out o h
                  clear HOM hoz
                  go_wp2_with fail
                  go_ret
                  rw [HO.out]
                  exact ⟨rfl, WB⟩
            | false =>
              have hB' := HB.out
              rw [restN_not hc2] at hB'
              have HB' : Hid (_ = R) := (FIN R).out _ hB'
              clear HB hB'
              by_cases hil : E < ss.length
              · have hil' : (E : Int) < (ss.length : Int) := by omega
                go_wp2_with fail
                refine wp_loop_rounds 1 ?_
                rw [rounds_succ]
                go_wp2_with fail
                go_ret
                rw [HB'.out]
                exact ⟨rfl, WB⟩
              · have hil' : ¬ (E : Int) < (ss.length : Int) := by omega
                go_wp2_with fail
                refine wp_loop_rounds 1 ?_
                rw [rounds_succ]
                go_wp2_with fail
                go_ret
                rw [HB'.out]
                exact ⟨rfl, WB⟩
set_option maxHeartbeats 16000000 in
theorem spec_bt_join (w : World) (v : Value) (ss : List ByteArray) (ch : Int) (hV : SlS w v ss) (hl : totS ss + ss.length ≤ 8388608) :
    Calls Tryz.prog 174 #[v, .bool false, .int .i64 ch] w fun e w' => e = .returned (.string (blockText ss false ch)) ∧ Below w.heap.size w w' := by
  obtain ⟨a, c, rfl⟩ := hV.sl
  obtain ⟨E, hE⟩ : ∃ E, endB ss ss.length = E := ⟨_, rfl⟩
  have hEl : E ≤ ss.length := by rw [← hE]; exact endB_le _ _
  have hcap : E ≤ c := by
    by_cases h0 : ss = []
    · subst h0; simp at hEl; omega
    · have := hV.le h0; omega
  have hcap' : (E : Int) ≤ (c : Int) := by omega
  have hEn : (0 : Int) ≤ (E : Int) := by omega
  have hTk := hV.take E hEl
  have hTt := totS_le ss E
  have hL : ss.length ≤ 8388608 := by omega
  have HE : Hid (endB ss ss.length = E) := hE
  have htl : (ss.take E).length = E := by rw [List.length_take]; omega
  have HTL : Hid ((ss.take E).length = E) := htl
  have HBT : Hid (totS (ss.take E) + (ss.take E).length ≤ 8388608) := by show totS (ss.take E) + (ss.take E).length ≤ 8388608; omega
  obtain ⟨R, hR⟩ : ∃ R, blockText ss false ch = R := ⟨_, rfl⟩
  have HR : Hid (tailB E ch (joinB (ss.take E)) ++ brks (restN ss.length E ch) = R) := by
    show tailB E ch (joinB (ss.take E)) ++ brks (restN ss.length E ch) = R
    rw [← hR, blockText_eq, hE]
    rfl
  rw [hR]
  clear hR hE hTt hl htl
  cases a with
  | none =>
    have HV : Hid (SlS w (.slice none ss.length c) ss) := hV
    have HTK : Hid (SlS w (.slice none E c) (ss.take E)) := hTk
    clear hV hTk
    go_enter Tryz.func174, Tryz.ntmps174
    go_wp2_with fail
    go_loop [7] (fun ev => ∃ k : Nat, k ≤ ss.length ∧ ev = .int .i64 k ∧ Hid (endB ss k = E)) (fun ev => (intOf ev).toNat)
    case atStart => exact ⟨ss.length, Nat.le_refl _, rfl, HE⟩
    case round =>
      obtain ⟨k, hk, rfl, HK⟩ := hrel
      by_cases h0 : k = 0
      · have hkE : E = k := by rw [← HK.out, h0]; rfl
        subst hkE
        have h0' : ¬ (0 : Int) < (E : Int) := by omega
        clear h0 HK
        obtain ⟨B, hB⟩ : ∃ B, joinB (ss.take E) = B := ⟨_, rfl⟩
        have hBz : B.size ≤ 33554432 := by
          rw [← hB]
          have h1 := joinB_size (ss.take E)
          have h2 := HBT.out
          omega
        have HBJ : Hid (joinB (ss.take E) = B) := hB
        rw [hB] at HR
        clear hB
        have WB : Below w.heap.size w w := Below.refl _ _
        go_wp2_with fail
        go_loop [8, 35] (fun ov iv => ∃ (i : Nat) (o : ByteArray), i ≤ E ∧ iv = .int .i64 i ∧ ov = .string o ∧ Hid (joinB ((ss.take E).take i) = o) ∧ o.size ≤ 33554432) (fun _ iv => E - (intOf iv).toNat)
        case atStart => exact ⟨0, _, Nat.zero_le _, rfl, rfl, rfl, by show 0 ≤ 33554432; omega⟩
        case round =>
          obtain ⟨i, o, hi, rfl, rfl, HJ, hoz⟩ := hrel
          by_cases hiE : i < E
          · exfalso; omega
          · have hiE' : ¬ (i : Int) < (E : Int) := by omega
            obtain rfl : B = o := by
              have e := List.take_of_length_le (l := ss.take E) (i := i) (by rw [HTL.out]; omega)
              rw [← HBJ.out, ← HJ.out, e]
            clear HJ
            have hB2 : B.size ≤ 33554432 := hBz
            have HB : Hid (B ++ brks (restN ss.length E ch) = R) := by
              show B ++ brks (restN ss.length E ch) = R
              rw [← HR.out, tailB_zero (by omega)]
            clear HR
            cases hc2 : ch == 2 with
            | true =>
              have hB' := HB.out
              rw [restN_two hc2] at hB'
              have HB' : Hid (_ = R) := hB'
              clear HB hB'
              go_wp2_with fail
              go_loop [8, 11] (fun ov iv => ∃ (i : Nat) (o : ByteArray), i ≤ ss.length ∧ iv = .int .i64 i ∧ ov = .string o ∧ o.size + (ss.length - i) ≤ 50331648 ∧ Hid (o ++ brks (ss.length - i) = R)) (fun _ iv => ss.length - (intOf iv).toNat)
              case atStart => exact ⟨E, _, hEl, by go_num, rfl, by first | omega | (simp only [ByteArray.size_append]; show _ + 1 + _ ≤ _; omega), HB'⟩
              case round =>
                obtain ⟨i, o, hi, rfl, rfl, hoz, HOM⟩ := hrel
                by_cases hil : i < ss.length
                · have hil' : (i : Int) < (ss.length : Int) := by omega
                  have HM2 : Hid ((o ++ ⟨#[10]⟩) ++ brks (ss.length - (i + 1)) = R) := by
                    have h := HOM.out
                    rw [show ss.length - i = ss.length - (i + 1) + 1 by omega] at h
                    exact (STEP R).out o _ h
                  have ho2 : o.size ≤ 50331648 := by omega
                  have hoz2 : (o ++ ⟨#[10]⟩).size + (ss.length - (i + 1)) ≤ 50331648 := by
                    rw [ByteArray.size_append]
                    show o.size + 1 + _ ≤ _
                    omega
                  have HOZ : Hid ((o ++ ⟨#[10]⟩).size + (ss.length - (i + 1)) ≤ 50331648) := hoz2
                  clear HOM hoz hoz2
                  go_wp2_with fail
                  go_round
                  case rel => exact ⟨i + 1, _, hil, by go_num, rfl, HOZ.out, HM2⟩
                  case measure => simp [intOf]; omega
                · have hil' : ¬ (i : Int) < (ss.length : Int) := by omega
                  have HO : Hid (o = R) := by
                    have h := HOM.out
                    rw [show ss.length - i = 0 by omega] at h
                    exact (FIN R).out o h
                  clear HOM hoz
                  go_wp2_with fail
                  go_ret
                  rw [HO.out]
                  exact ⟨rfl, WB⟩
            | false =>
              have hB' := HB.out
              rw [restN_not hc2] at hB'
              have HB' : Hid (_ = R) := (FIN R).out _ hB'
              clear HB hB'
              by_cases hil : E < ss.length
              · have hil' : (E : Int) < (ss.length : Int) := by omega
                go_wp2_with fail
                refine wp_loop_rounds 1 ?_
                rw [rounds_succ]
                go_wp2_with fail
                go_ret
                rw [HB'.out]
                exact ⟨rfl, WB⟩
              · have hil' : ¬ (E : Int) < (ss.length : Int) := by omega
                go_wp2_with fail
                refine wp_loop_rounds 1 ?_
                rw [rounds_succ]
                go_wp2_with fail
                go_ret
                rw [HB'.out]
                exact ⟨rfl, WB⟩
      · obtain ⟨x, hx⟩ : ∃ x, ss[k - 1]? = some x := ⟨_, List.getElem?_eq_getElem (by omega)⟩
        obtain ⟨j, hj⟩ : ∃ j, k = j + 1 := ⟨k - 1, by omega⟩
        have hx' : ss[j]? = some x := by rw [show j = k - 1 by omega]; exact hx
        obtain ⟨b, off, e2, c1⟩ := HV.out.cells (Below.refl _ _) hx'
        cases e2
  | some ad =>
    have HV : Hid (SlS w (.slice (some ad) ss.length c) ss) := hV
    have HTK : Hid (SlS w (.slice (some ad) E c) (ss.take E)) := hTk
    clear hV hTk
    go_enter Tryz.func174, Tryz.ntmps174
    go_wp2_with fail
    go_loop [7] (fun ev => ∃ k : Nat, k ≤ ss.length ∧ ev = .int .i64 k ∧ Hid (endB ss k = E)) (fun ev => (intOf ev).toNat)
    case atStart => exact ⟨ss.length, Nat.le_refl _, rfl, HE⟩
    case round =>
      obtain ⟨k, hk, rfl, HK⟩ := hrel
      by_cases h0 : k = 0
      · have hkE : E = k := by rw [← HK.out, h0]; rfl
        subst hkE
        have h0' : ¬ (0 : Int) < (E : Int) := by omega
        clear h0 HK
        obtain ⟨B, hB⟩ : ∃ B, joinB (ss.take E) = B := ⟨_, rfl⟩
        have hBz : B.size ≤ 33554432 := by
          rw [← hB]
          have h1 := joinB_size (ss.take E)
          have h2 := HBT.out
          omega
        have HBJ : Hid (joinB (ss.take E) = B) := hB
        rw [hB] at HR
        clear hB
        have WB : Below w.heap.size w w := Below.refl _ _
        go_wp2_with fail
        go_loop [8, 35] (fun ov iv => ∃ (i : Nat) (o : ByteArray), i ≤ E ∧ iv = .int .i64 i ∧ ov = .string o ∧ Hid (joinB ((ss.take E).take i) = o) ∧ o.size ≤ 33554432) (fun _ iv => E - (intOf iv).toNat)
        case atStart => exact ⟨0, _, Nat.zero_le _, rfl, rfl, rfl, by show 0 ≤ 33554432; omega⟩
        case round =>
          obtain ⟨i, o, hi, rfl, rfl, HJ, hoz⟩ := hrel
          by_cases hiE : i < E
          · exfalso; omega
          · have hiE' : ¬ (i : Int) < (E : Int) := by omega
            obtain rfl : B = o := by
              have e := List.take_of_length_le (l := ss.take E) (i := i) (by rw [HTL.out]; omega)
              rw [← HBJ.out, ← HJ.out, e]
            clear HJ
            have hB2 : B.size ≤ 33554432 := hBz
            have HB : Hid (B ++ brks (restN ss.length E ch) = R) := by
              show B ++ brks (restN ss.length E ch) = R
              rw [← HR.out, tailB_zero (by omega)]
            clear HR
            cases hc2 : ch == 2 with
            | true =>
              have hB' := HB.out
              rw [restN_two hc2] at hB'
              have HB' : Hid (_ = R) := hB'
              clear HB hB'
              go_wp2_with fail
              go_loop [8, 11] (fun ov iv => ∃ (i : Nat) (o : ByteArray), i ≤ ss.length ∧ iv = .int .i64 i ∧ ov = .string o ∧ o.size + (ss.length - i) ≤ 50331648 ∧ Hid (o ++ brks (ss.length - i) = R)) (fun _ iv => ss.length - (intOf iv).toNat)
              case atStart => exact ⟨E, _, hEl, by go_num, rfl, by first | omega | (simp only [ByteArray.size_append]; show _ + 1 + _ ≤ _; omega), HB'⟩
              case round =>
                obtain ⟨i, o, hi, rfl, rfl, hoz, HOM⟩ := hrel
                by_cases hil : i < ss.length
                · have hil' : (i : Int) < (ss.length : Int) := by omega
                  have HM2 : Hid ((o ++ ⟨#[10]⟩) ++ brks (ss.length - (i + 1)) = R) := by
                    have h := HOM.out
                    rw [show ss.length - i = ss.length - (i + 1) + 1 by omega] at h
                    exact (STEP R).out o _ h
                  have ho2 : o.size ≤ 50331648 := by omega
                  have hoz2 : (o ++ ⟨#[10]⟩).size + (ss.length - (i + 1)) ≤ 50331648 := by
                    rw [ByteArray.size_append]
                    show o.size + 1 + _ ≤ _
                    omega
                  have HOZ : Hid ((o ++ ⟨#[10]⟩).size + (ss.length - (i + 1)) ≤ 50331648) := hoz2
                  clear HOM hoz hoz2
                  go_wp2_with fail
                  go_round
                  case rel => exact ⟨i + 1, _, hil, by go_num, rfl, HOZ.out, HM2⟩
                  case measure => simp [intOf]; omega
                · have hil' : ¬ (i : Int) < (ss.length : Int) := by omega
                  have HO : Hid (o = R) := by
                    have h := HOM.out
                    rw [show ss.length - i = 0 by omega] at h
                    exact (FIN R).out o h
                  clear HOM hoz
                  go_wp2_with fail
                  go_ret
                  rw [HO.out]
                  exact ⟨rfl, WB⟩
            | false =>
              have hB' := HB.out
              rw [restN_not hc2] at hB'
              have HB' : Hid (_ = R) := (FIN R).out _ hB'
              clear HB hB'
              by_cases hil : E < ss.length
              · have hil' : (E : Int) < (ss.length : Int) := by omega
                go_wp2_with fail
                refine wp_loop_rounds 1 ?_
                rw [rounds_succ]
                go_wp2_with fail
                go_ret
                rw [HB'.out]
                exact ⟨rfl, WB⟩
              · have hil' : ¬ (E : Int) < (ss.length : Int) := by omega
                go_wp2_with fail
                refine wp_loop_rounds 1 ?_
                rw [rounds_succ]
                go_wp2_with fail
                go_ret
                rw [HB'.out]
                exact ⟨rfl, WB⟩
      · obtain ⟨x, hx⟩ : ∃ x, ss[k - 1]? = some x := ⟨_, List.getElem?_eq_getElem (by omega)⟩
        obtain ⟨j, hj⟩ : ∃ j, k = j + 1 := ⟨k - 1, by omega⟩
        have hx' : ss[j]? = some x := by rw [show j = k - 1 by omega]; exact hx
        obtain ⟨b, off, e2, c1⟩ := HV.out.cells (Below.refl _ _) hx'
        injection e2 with e2
        subst e2
        have e1 : (k : Int) - 1 = (j : Int) := by omega
        have h0' : (0 : Int) < (k : Int) := by omega
        have hjl : j < ss.length := by omega
        have hjl' : (j : Int) < (ss.length : Int) := by omega
        by_cases hxe : x = ByteArray.empty
        · have hX : (x.toList == []) = true := by rw [hxe]; exact empty_list
          have HK2 : Hid (endB ss j = E) := by show endB ss j = E; rw [← HK.out, hj, endB_step hx' hxe]
          clear hx hx' hxe HK h0
          go_wp2_with fail
          go_round
          case rel => exact ⟨j, by omega, by go_num, HK2⟩
          case measure => simp [intOf]; omega
        · have hX := nonempty_list hxe
          have hkE : E = k := by rw [← HK.out]; exact endB_fix (.inr ⟨x, hx, hxe⟩)
          subst hkE
          clear hx hx' hxe HK h0 hj
          obtain ⟨B, hB⟩ : ∃ B, joinB (ss.take E) = B := ⟨_, rfl⟩
          have hBz : B.size ≤ 33554432 := by
            rw [← hB]
            have h1 := joinB_size (ss.take E)
            have h2 := HBT.out
            omega
          have HBJ : Hid (joinB (ss.take E) = B) := hB
          rw [hB] at HR
          clear hB
          have WB : Below w.heap.size w w := Below.refl _ _
          go_wp2_with fail
          go_loop [8, 35] (fun ov iv => ∃ (i : Nat) (o : ByteArray), i ≤ E ∧ iv = .int .i64 i ∧ ov = .string o ∧ Hid (joinB ((ss.take E).take i) = o) ∧ o.size ≤ 33554432) (fun _ iv => E - (intOf iv).toNat)
          case atStart => exact ⟨0, _, Nat.zero_le _, rfl, rfl, rfl, by show 0 ≤ 33554432; omega⟩
          case round =>
            obtain ⟨i, o, hi, rfl, rfl, HJ, hoz⟩ := hrel
            by_cases hiE : i < E
            · obtain ⟨y, hy⟩ : ∃ y, (ss.take E)[i]? = some y := ⟨_, List.getElem?_eq_getElem (by have := HTL.out; omega)⟩
              have HTK2 : SlS w (.slice (some ⟨b, off, none⟩) (ss.take E).length c) (ss.take E) := by rw [HTL.out]; exact HTK.out
              obtain ⟨b2, off2, e2, c2⟩ := HTK2.cells (Below.refl _ _) hy
              injection e2 with e2
              injection e2 with e3 e4
              subst e3
              subst e4
              have hiE' : (i : Int) < (E : Int) := by omega
              have hys : y.size ≤ 8388608 := by have := totS_mem (List.mem_of_getElem? hy); have := HBT.out; omega
              have HJ2 : Hid (joinB ((ss.take E).take (i + 1)) = (if i = 0 then y else o ++ b10 ++ y)) := by
                show joinB ((ss.take E).take (i + 1)) = _
                rw [List.take_add_one, hy]
                show joinB ((ss.take E).take i ++ [y]) = _
                rw [joinB_snoc, HJ.out]
                by_cases h : i = 0
                · subst h; rfl
                · rw [if_neg h, if_neg]
                  intro e
                  have := congrArg List.length e
                  rw [List.length_take, HTL.out] at this
                  simp at this
                  omega
              have HJ3 : Hid ((joinB ((ss.take E).take (i + 1))).size ≤ 33554432) := by
                have h1 := joinB_size ((ss.take E).take (i + 1))
                have h2 := totS_le (ss.take E) (i + 1)
                have h3 := HBT.out
                have h4 : ((ss.take E).take (i + 1)).length ≤ (ss.take E).length := by rw [List.length_take]; omega
                show (joinB ((ss.take E).take (i + 1))).size ≤ 33554432
                omega
              by_cases hi0 : i = 0
              · have hi0' : ¬ (0 : Int) < (i : Int) := by omega
                have HJ4 : Hid (joinB ((ss.take E).take (i + 1)) = o ++ y) := by
                  show joinB ((ss.take E).take (i + 1)) = o ++ y
                  rw [HJ2.out, if_pos hi0, ← HJ.out, hi0]
                  exact (empty_app y).symm
                have HJ5 : Hid ((o ++ y).size ≤ 33554432) := by show (o ++ y).size ≤ 33554432; rw [← HJ4.out]; exact HJ3.out
                clear hy HJ2 HJ3 hi0 HTK2 HJ
                go_wp2_with fail
                go_round
                case rel => exact ⟨i + 1, _, hiE, by go_num, rfl, HJ4, HJ5.out⟩
                case measure => simp [intOf]; omega
              · have hi0' : (0 : Int) < (i : Int) := by omega
                have HJ4 : Hid (joinB ((ss.take E).take (i + 1)) = o ++ ⟨#[10]⟩ ++ y) := by
                  show joinB ((ss.take E).take (i + 1)) = o ++ ⟨#[10]⟩ ++ y
                  rw [HJ2.out, if_neg hi0]; rfl
                have HJ5 : Hid ((o ++ ⟨#[10]⟩ ++ y).size ≤ 33554432) := by show (o ++ ⟨#[10]⟩ ++ y).size ≤ 33554432; rw [← HJ4.out]; exact HJ3.out
                clear hy HJ2 HJ3 hi0 HTK2 HJ
                go_wp2_with fail
                go_round
                case rel => exact ⟨i + 1, _, hiE, by go_num, rfl, HJ4, HJ5.out⟩
                case measure => simp [intOf]; omega
            · have hiE' : ¬ (i : Int) < (E : Int) := by omega
              obtain rfl : B = o := by
                have e := List.take_of_length_le (l := ss.take E) (i := i) (by rw [HTL.out]; omega)
                rw [← HBJ.out, ← HJ.out, e]
              clear HJ
              have hB2 : B.size ≤ 33554432 := hBz
              cases hc1 : ch != 1 with
              | false =>
                have HB : Hid (B ++ brks (restN ss.length E ch) = R) := by
                  show B ++ brks (restN ss.length E ch) = R
                  rw [← HR.out, tailB_one hc1]
                clear HR
                cases hc2 : ch == 2 with
                | true =>
                  have hB' := HB.out
                  rw [restN_two hc2] at hB'
                  have HB' : Hid (_ = R) := hB'
                  clear HB hB'
                  go_wp2_with fail
                  go_loop [8, 11] (fun ov iv => ∃ (i : Nat) (o : ByteArray), i ≤ ss.length ∧ iv = .int .i64 i ∧ ov = .string o ∧ o.size + (ss.length - i) ≤ 50331648 ∧ Hid (o ++ brks (ss.length - i) = R)) (fun _ iv => ss.length - (intOf iv).toNat)
                  case atStart => exact ⟨E, _, hEl, by go_num, rfl, by first | omega | (simp only [ByteArray.size_append]; show _ + 1 + _ ≤ _; omega), HB'⟩
                  case round =>
                    obtain ⟨i, o, hi, rfl, rfl, hoz, HOM⟩ := hrel
                    by_cases hil : i < ss.length
                    · have hil' : (i : Int) < (ss.length : Int) := by omega
                      have HM2 : Hid ((o ++ ⟨#[10]⟩) ++ brks (ss.length - (i + 1)) = R) := by
                        have h := HOM.out
                        rw [show ss.length - i = ss.length - (i + 1) + 1 by omega] at h
                        exact (STEP R).out o _ h
                      have ho2 : o.size ≤ 50331648 := by omega
                      have hoz2 : (o ++ ⟨#[10]⟩).size + (ss.length - (i + 1)) ≤ 50331648 := by
                        rw [ByteArray.size_append]
                        show o.size + 1 + _ ≤ _
                        omega
                      have HOZ : Hid ((o ++ ⟨#[10]⟩).size + (ss.length - (i + 1)) ≤ 50331648) := hoz2
                      clear HOM hoz hoz2
                      go_wp2_with fail
                      go_round
                      case rel => exact ⟨i + 1, _, hil, by go_num, rfl, HOZ.out, HM2⟩
                      case measure => simp [intOf]; omega
                    · have hil' : ¬ (i : Int) < (ss.length : Int) := by omega
                      have HO : Hid (o = R) := by
                        have h := HOM.out
                        rw [show ss.length - i = 0 by omega] at h
                        exact (FIN R).out o h
                      clear HOM hoz
                      go_wp2_with fail
                      go_ret
                      rw [HO.out]
                      exact ⟨rfl, WB⟩
                | false =>
                  have hB' := HB.out
                  rw [restN_not hc2] at hB'
                  have HB' : Hid (_ = R) := (FIN R).out _ hB'
                  clear HB hB'
                  by_cases hil : E < ss.length
                  · have hil' : (E : Int) < (ss.length : Int) := by omega
                    go_wp2_with fail
                    refine wp_loop_rounds 1 ?_
                    rw [rounds_succ]
                    go_wp2_with fail
                    go_ret
                    rw [HB'.out]
                    exact ⟨rfl, WB⟩
                  · have hil' : ¬ (E : Int) < (ss.length : Int) := by omega
                    go_wp2_with fail
                    refine wp_loop_rounds 1 ?_
                    rw [rounds_succ]
                    go_wp2_with fail
                    go_ret
                    rw [HB'.out]
                    exact ⟨rfl, WB⟩
              | true =>
                have HB : Hid ((B ++ ⟨#[10]⟩) ++ brks (restN ss.length E ch) = R) := by
                  show (B ++ ⟨#[10]⟩) ++ brks (restN ss.length E ch) = R
                  rw [← HR.out, tailB_more h0' hc1]
                clear HR
                cases hc2 : ch == 2 with
                | true =>
                  have hB' := HB.out
                  rw [restN_two hc2] at hB'
                  have HB' : Hid (_ = R) := hB'
                  clear HB hB'
                  go_wp2_with fail
                  go_loop [8, 11] (fun ov iv => ∃ (i : Nat) (o : ByteArray), i ≤ ss.length ∧ iv = .int .i64 i ∧ ov = .string o ∧ o.size + (ss.length - i) ≤ 50331648 ∧ Hid (o ++ brks (ss.length - i) = R)) (fun _ iv => ss.length - (intOf iv).toNat)
                  case atStart => exact ⟨E, _, hEl, by go_num, rfl, by first | omega | (simp only [ByteArray.size_append]; show _ + 1 + _ ≤ _; omega), HB'⟩
                  case round =>
                    obtain ⟨i, o, hi, rfl, rfl, hoz, HOM⟩ := hrel
                    by_cases hil : i < ss.length
                    · have hil' : (i : Int) < (ss.length : Int) := by omega
                      have HM2 : Hid ((o ++ ⟨#[10]⟩) ++ brks (ss.length - (i + 1)) = R) := by
                        have h := HOM.out
                        rw [show ss.length - i = ss.length - (i + 1) + 1 by omega] at h
                        exact (STEP R).out o _ h
                      have ho2 : o.size ≤ 50331648 := by omega
                      have hoz2 : (o ++ ⟨#[10]⟩).size + (ss.length - (i + 1)) ≤ 50331648 := by
                        rw [ByteArray.size_append]
                        show o.size + 1 + _ ≤ _
                        omega
                      have HOZ : Hid ((o ++ ⟨#[10]⟩).size + (ss.length - (i + 1)) ≤ 50331648) := hoz2
                      clear HOM hoz hoz2
                      go_wp2_with fail
                      go_round
                      case rel => exact ⟨i + 1, _, hil, by go_num, rfl, HOZ.out, HM2⟩
                      case measure => simp [intOf]; omega
                    · have hil' : ¬ (i : Int) < (ss.length : Int) := by omega
                      have HO : Hid (o = R) := by
                        have h := HOM.out
                        rw [show ss.length - i = 0 by omega] at h
                        exact (FIN R).out o h
                      clear HOM hoz
                      go_wp2_with fail
                      go_ret
                      rw [HO.out]
                      exact ⟨rfl, WB⟩
                | false =>
                  have hB' := HB.out
                  rw [restN_not hc2] at hB'
                  have HB' : Hid (_ = R) := (FIN R).out _ hB'
                  clear HB hB'
                  by_cases hil : E < ss.length
                  · have hil' : (E : Int) < (ss.length : Int) := by omega
                    go_wp2_with fail
                    refine wp_loop_rounds 1 ?_
                    rw [rounds_succ]
                    go_wp2_with fail
                    go_ret
                    rw [HB'.out]
                    exact ⟨rfl, WB⟩
                  · have hil' : ¬ (E : Int) < (ss.length : Int) := by omega
                    go_wp2_with fail
                    refine wp_loop_rounds 1 ?_
                    rw [rounds_succ]
                    go_wp2_with fail
                    go_ret
                    rw [HB'.out]
                    exact ⟨rfl, WB⟩
theorem spec_blockText (w : World) (v : Value) (ss : List ByteArray) (fd : Bool) (ch : Int) (hV : SlS w v ss) (hl : totS ss + ss.length ≤ 8388608) :
    Calls Tryz.prog 174 #[v, .bool fd, .int .i64 ch] w fun e w' => e = .returned (.string (blockText ss fd ch)) ∧ Below w.heap.size w w' := by
  cases fd with
  | true => exact spec_bt_fold w v ss ch hV hl
  | false => exact spec_bt_join w v ss ch hV hl
end Go.Proofs.YtjpcmmfmdoglkalGreatDoor
/- The laws on FoldFlow, FoldBlock and BlockText, walked, over impl's contracts. -/
namespace Go.Proofs.YtjpcmmfmdoglkalGreatDoor
open Go.ChangeShapes Go.WideShapes Go.ChangeAt Go.RowKit Go.Deep
/-- What is asked of impl. -/
def ImplFf : Prop := ∀ (w : World) (v : Value) (ps : List Pc), SlC w v ps → totC ps + ps.length ≤ 8388608 →
    Calls Tryz.prog 161 #[v] w fun e w' => e = .returned (.string (foldFlow ps)) ∧ Below w.heap.size w w'
def ImplFb : Prop := ∀ (w : World) (v : Value) (ss : List ByteArray), SlS w v ss → totS ss + ss.length ≤ 8388608 →
    Calls Tryz.prog 239 #[v] w fun e w' => e = .returned (.string (foldBlock ss)) ∧ Below w.heap.size w w'
def ImplBt : Prop := ∀ (w : World) (v : Value) (ss : List ByteArray) (fd : Bool) (ch : Int), SlS w v ss → totS ss + ss.length ≤ 8388608 → (Lit.int .i64 ch).wf = true →
    Calls Tryz.prog 228 #[v, .bool fd, .int .i64 ch] w fun e w' => e = .returned (.string (blockText ss fd ch)) ∧ Below w.heap.size w w'
end Go.Proofs.YtjpcmmfmdoglkalGreatDoor
