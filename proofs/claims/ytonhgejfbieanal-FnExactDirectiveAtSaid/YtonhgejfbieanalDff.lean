/- strings.FieldsFunc at a function value that may lay blocks of its own: the pieces between the runes that it names. -/
import Derived.Test.YtonhgejfbieanalPsh
import Derived.Test.YtonhgejfbieanalOvr
import Derived.Lib.FieldsP
import Derived.Lib.TrimU
import Derived.Lib.OthersKept
import Derived.Shelf.Strings.FieldsFuncAny
namespace Go.Proofs.Ytonhgejfbieanal
open Go.ChangeShapes Go.WideShapes Go.ChangeAt Go.RowKit
open Go.Lib (spanCells spansFromP spansOfP goFieldsP closeSpans)
theorem infoSp : (Try.prog.info? 63).map (fun i => (i.zero, i.size, i.bytes)) = some (some (.agg #[.int .i64 0, .int .i64 0]), 2, 16) := by kernel_rfl
theorem infoSs : (Try.prog.info? 9).map (fun i => (i.zero, i.size, i.bytes)) = some (some (.string ⟨#[]⟩), 1, 16) := by kernel_rfl
theorem ownB {w w' : World} {lo e sz : Nat} {v : Value} {n : Nat} {xs : List Value} (h : w.ownsRow lo e sz v n xs) (hb : Below w.heap.size w w') : w'.ownsRow lo e sz v n xs := row_same h (fun k _ hk => hb.block k hk)
theorem hidF {p : Prop} (h : p) : Hid p := h
/-- What is asked of a function on runes. -/
def RuneC (g : Nat) (p : Nat → Bool) : Prop := ∀ (x : Nat) (w : World), x ≤ 1114111 → Calls Try.prog g #[.int .i32 (x : Int)] w fun e w' => e = .returned (.bool (p x)) ∧ Below w.heap.size w w'
/-- How far the first loop is: the world wx, the spans' slice v, the start z. -/
def SpI (w : World) (p : Nat → Bool) (s : ByteArray) (it : Nat) (gf : Nat) (v : Value) (z : Int) (wx : World) : Prop :=
  ∃ (pos : Nat) (st : Option Nat) (acc : List (Nat × Nat)), (st = none → z < 0) ∧ (∀ a, st = some a → z = (a : Int)) ∧ -9223372036854775808 ≤ z ∧
    wx.ownsRow w.heap.size 63 2 v acc.length (spanCells acc) ∧ wx.heap[it]? = some (.stringIter s pos) ∧ Below w.heap.size w wx ∧
    spansFromP p s gf pos st acc = spansFromP p s s.size 0 none [] ∧ s.size ≤ pos + gf ∧ pos ≤ s.size ∧ acc.length ≤ pos ∧ (∀ a, st = some a → a < pos) ∧ (∀ x ∈ acc, x.1 ≤ x.2 ∧ x.2 ≤ s.size) ∧ v ≠ .slice none 0 0
set_option maxRecDepth 1000000 in
set_option maxHeartbeats 8000000 in
theorem fieldsF_any (g : Nat) (eg : ∀ args w, (callFunc g args).run Try.prog w = .ok (.enter g args) w) (p : Nat → Bool) (HP : RuneC g p) (s : ByteArray) (w : World) (hs : s.size ≤ 1048576) :
    Calls Try.prog 27 #[.string s, .func (.func g) #[] #[]] w fun e w' => ∃ A, e = .returned (.slice (some ⟨A, 0, none⟩) (goFieldsP p s).length (goFieldsP p s).length) ∧
      w'.ownsRow w.heap.size 9 1 (.slice (some ⟨A, 0, none⟩) (goFieldsP p s).length (goFieldsP p s).length) (goFieldsP p s).length ((goFieldsP p s).map Value.string) ∧ Below w.heap.size w w' := by
  have HG : Hid (goFieldsP p s = (spansOfP p s).map fun x => s.extract x.1 x.2) := rfl
  have HP' : Hid (RuneC g p) := HP
  clear HP
  obtain ⟨i0, hi, hz0, hz1, hz2⟩ := info_parts infoSp
  obtain ⟨W0, hmk, hown0, hg0⟩ := run_make_own (P := Try.prog) w w.heap.size 61 63 i0 _ 2 (by kernel_rfl) hi hz0 hz1 .i64 .i64 32 (by rw [hz2]; decide) (by unfold maxLen; decide) (Nat.le_refl _)
  rw [show ((32 : Nat) : Int) = 32 from rfl] at hmk
  have hb0 : Below w.heap.size w W0 := (Below.refl _ w).grown hg0 (Nat.le_refl _) (fun k hk => by cases hk)
  have HB0 : Hid (Below w.heap.size w W0) := hb0
  have HO0 : Hid (W0.ownsRow w.heap.size 63 2 (.slice (some ⟨w.heap.size, 0, none⟩) 0 32) ([] : List (Nat × Nat)).length (spanCells [])) := hown0
  clear hown0 hg0 hb0
  go_enter Try.func27, Try.ntmps27
  go_wp2_with fail
  go_loopg [5, 6] s.size (fun gf s5 s6 wx => ∃ z : Int, s6 = .int .i64 z ∧ Hid (SpI w p s W0.heap.size gf s5 z wx))
  case atStart =>
    exact ⟨-1, rfl, 0, none, [], fun _ => by omega, (fun a h => by cases h), by omega, HO0.out.alloc _, World.iter_heap W0 s 0, HB0.out.alloc HB0.out.size _, rfl, by omega, Nat.zero_le _, Nat.le_refl _, (fun a h => by cases h), (fun x hx => by cases hx), (fun h => by cases h)⟩
  case round =>
    obtain ⟨z, rfl, HI⟩ := hrel
    obtain ⟨pos, st, acc, hzn, hzs, hzl, hown, hit, hbw, hsp, hfu, hps, hal, hst, hok, hnn⟩ := HI.out
    clear HI
    by_cases hlt : pos < s.size
    · obtain ⟨g', rfl⟩ : ∃ g', gk = g' + 1 := ⟨gk - 1, by omega⟩
      have hwd := Lib.width_pos s pos
      have hwn : pos + (Utf8.decode s pos).2 ≤ s.size := by
        have := Lib.decodeN_le_n' (s.size - pos) (s.get! pos).toNat (s.get! (pos + 1)).toNat (s.get! (pos + 2)).toNat (s.get! (pos + 3)).toNat (by omega)
        rw [← Lib.decode_at] at this
        omega
      have hrl := Lib.rune_le s pos
      obtain ⟨R, K, hdc⟩ : ∃ R K, Utf8.decode s pos = (R, K) := ⟨_, _, rfl⟩
      have hnx : ∀ ty, (Instr.next (.pointer (some ⟨W0.heap.size, 0, none⟩)) true ty).run Try.prog wr = .ok (.tuple #[.bool true, .int .i64 (pos : Int), .int .i32 (R : Int)]) (wr.iterAt W0.heap.size s (pos + K)) := fun ty => by
        have := Lib.run_next_any_at (P := Try.prog) wr W0.heap.size s pos ty hit hlt
        rw [hdc] at this
        exact this
      rw [hdc] at hwd hwn hrl
      replace hwd : 1 ≤ K := hwd
      replace hwn : pos + K ≤ s.size := hwn
      replace hrl : R ≤ 1114111 := hrl
      simp only [spansFromP, hlt, if_true, hdc] at hsp
      have HIT : Hid ((wr.iterAt W0.heap.size s (pos + K)).heap[W0.heap.size]? = some (.stringIter s (pos + K))) := Lib.iterAt_heap wr W0.heap.size s pos (pos + K) hit
      have HBW : Hid (Below w.heap.size w (wr.iterAt W0.heap.size s (pos + K))) := Lib.below_iterAt hbw (k := W0.heap.size) HB0.out.size s (pos + K)
      have HOW : Hid ((wr.iterAt W0.heap.size s (pos + K)).ownsRow w.heap.size 63 2 u5 acc.length (spanCells acc)) := own_iterAt hown hit (pos + K)
      have HNX : Hid (K = K) := rfl
      clear hown hit hbw
      generalize hWd : wr.iterAt W0.heap.size s (pos + K) = W at *
      clear hWd
      have cS := HP'.out R W hrl
      cases hpr : p R <;> rw [hpr] at cS <;> simp only [hpr, if_true, Bool.false_eq_true, if_false] at hsp
      · cases st with
        | none =>
          have hz0' : z < 0 := hzn rfl
          go_wp2_with fail
          refine cS.mono ?_
          rintro e W1 ⟨rfl, hb1⟩
          have HR : Hid (SpI w p s W0.heap.size g' u5 (pos : Int) W1) := ⟨pos + K, some pos, acc, (fun h => by cases h), fun a h => by cases h; rfl, by omega, ownB HOW.out hb1, (hb1.block _ (Array.getElem?_eq_some_iff.1 HIT.out).1).trans HIT.out, HBW.out.trans (hb1.mono HBW.out.size), hsp, by omega, hwn, by omega, fun a h => by cases h; omega, hok, hnn⟩
          clear HOW hb1 HIT HBW hsp hok hnn cS hzn hzs hst
          go_wp2_with fail
          go_roundg g'
          case measure => omega
          case rel => exact ⟨_, rfl, HR⟩
        | some a =>
          have hza : z = (a : Int) := hzs a rfl
          subst hza
          go_wp2_with fail
          refine cS.mono ?_
          rintro e W1 ⟨rfl, hb1⟩
          have HR : Hid (SpI w p s W0.heap.size g' u5 (a : Int) W1) := ⟨pos + K, some a, acc, (fun h => by cases h), fun b h => by cases h; rfl, by omega, ownB HOW.out hb1, (hb1.block _ (Array.getElem?_eq_some_iff.1 HIT.out).1).trans HIT.out, HBW.out.trans (hb1.mono HBW.out.size), hsp, by omega, hwn, by omega, fun b h => by cases h; have := hst a rfl; omega, hok, hnn⟩
          clear HOW hb1 HIT HBW hsp hok hnn cS hzn hzs hst
          go_wp2_with fail
          go_roundg g'
          case measure => omega
          case rel => exact ⟨_, rfl, HR⟩
      · cases st with
        | none =>
          have hz0' : z < 0 := hzn rfl
          go_wp2_with fail
          refine cS.mono ?_
          rintro e W1 ⟨rfl, hb1⟩
          have HR : Hid (SpI w p s W0.heap.size g' u5 z W1) := ⟨pos + K, none, acc, fun _ => hz0', (fun a h => by cases h), hzl, ownB HOW.out hb1, (hb1.block _ (Array.getElem?_eq_some_iff.1 HIT.out).1).trans HIT.out, HBW.out.trans (hb1.mono HBW.out.size), hsp, by omega, hwn, by omega, (fun a h => by cases h), hok, hnn⟩
          clear HOW hb1 HIT HBW hsp hok hnn cS hzn hzs hst
          go_wp2_with fail
          go_roundg g'
          case measure => omega
          case rel => exact ⟨_, rfl, HR⟩
        | some a =>
          have hza : z = (a : Int) := hzs a rfl
          subst hza
          have hap := hst a rfl
          go_wp2_with fail
          refine cS.mono ?_
          rintro e W1 ⟨rfl, hb1⟩
          have HOW1 : Hid (W1.ownsRow w.heap.size 63 2 u5 acc.length (spanCells acc)) := ownB HOW.out hb1
          have HIT1 : Hid (W1.heap[W0.heap.size]? = some (.stringIter s (pos + K))) := (hb1.block _ (Array.getElem?_eq_some_iff.1 HIT.out).1).trans HIT.out
          have HBW1 : Hid (Below w.heap.size w W1) := HBW.out.trans (hb1.mono HBW.out.size)
          have HSP : Hid (spansFromP p s g' (pos + K) none (acc ++ [(a, pos)]) = spansFromP p s s.size 0 none []) := hsp
          have HOK : Hid ((∀ x ∈ acc, x.1 ≤ x.2 ∧ x.2 ≤ s.size) ∧ acc.length ≤ pos) := ⟨hok, hal⟩
          clear HOW hb1 HIT HBW hsp hok hnn cS hzn hzs hst
          go_wp2_with (at_builtin; go_must (refine wpList_append_own _ rfl (.tmp 24) (.tmp 28) 61 rfl w.heap.size 63 i0 (.agg #[.int .i64 0, .int .i64 0]) 2 16 (by kernel_rfl) hi hz0 hz1 hz2 rfl (by decide) _ _ _ rfl (HOW1.out.alloc _) ⟨W1.heap.size, 0, none⟩ 1 1 [.int .i64 (a : Int), .int .i64 (pos : Int)] rfl rfl (cell_two_new' _ _ _ _) (by intro u hu; simp at hu; rcases hu with rfl | rfl <;> rfl) (by unfold maxLen; omega) (by omega) (by have := HBW1.out.size; simp; omega) ?_; intro v3 w3 hown3 hgrow3 hnil3))
          rw [i64_not a (by omega)]
          have HR : Hid (SpI w p s W0.heap.size g' v3 (-1 - (a : Int)) w3) := by
            have hX := HOW1.out.alloc (.cells #[.int .i64 (a : Int), .int .i64 (pos : Int)] 63)
            have hIT : W0.heap.size < W1.heap.size := (Array.getElem?_eq_some_iff.1 HIT1.out).1
            refine ⟨pos + K, none, acc ++ [(a, pos)], fun _ => by omega, (fun b h => by cases h), by omega, by rw [List.length_append, Lib.spanCells_snoc]; exact hown3, ?_, ?_, HSP.out, by omega, hwn, by have := HOK.out.2; simp; omega, (fun b h => by cases h), ?_, fun h => by have := (hnil3.1 h).2; omega⟩
            · exact (hgrow3.block W0.heap.size (by simp; omega) (own_ne_iter HOW1.out HIT1.out)).trans ((Below.heap_alloc _ _ _ hIT).trans HIT1.out)
            · exact (HBW1.out.alloc HBW1.out.size _).grown hgrow3 (by have := HBW1.out.size; simp; omega) (fun j hj => (hX.lt j hj).1)
            · intro x hx
              rcases List.mem_append.1 hx with h | h
              · exact HOK.out.1 x h
              · simp at h; subst h; exact ⟨by show a ≤ pos; omega, by show pos ≤ s.size; omega⟩
          clear HOW1 HIT1 HBW1 HSP HOK hown3 hgrow3 hnil3
          go_roundg g'
          case measure => omega
          case rel => exact ⟨_, rfl, HR⟩
    · obtain rfl : pos = s.size := by omega
      have hnx : ∀ ty, (Instr.next (.pointer (some ⟨W0.heap.size, 0, none⟩)) true ty).run Try.prog wr = .ok (.tuple #[.bool false]) wr := fun ty => Lib.run_next_end_at wr W0.heap.size s s.size ty hit hlt
      rw [Lib.spansFromP_end p s gk _ _ _ hlt] at hsp
      have hSP : spansOfP p s = closeSpans s (acc, st) := by unfold spansOfP; rw [← hsp]
      have HOK : Hid ((∀ x ∈ spansOfP p s, x.1 ≤ x.2 ∧ x.2 ≤ s.size) ∧ (spansOfP p s).length ≤ s.size + 1) := by
        show _ ∧ _
        rw [hSP]
        cases st with
        | none => exact ⟨hok, by show acc.length ≤ _; omega⟩
        | some a =>
          refine ⟨fun x hx => ?_, by show (acc ++ [(a, s.size)]).length ≤ _; simp; omega⟩
          rcases List.mem_append.1 hx with h | h
          · exact hok x h
          · simp at h; subst h; have := hst a rfl; exact ⟨by show a ≤ s.size; omega, Nat.le_refl _⟩
      have HSP : Hid (spansOfP p s = closeSpans s (acc, st)) := hSP
      have HOW : Hid (wr.ownsRow w.heap.size 63 2 u5 acc.length (spanCells acc)) := hown
      have HBW : Hid (Below w.heap.size w wr) := hbw
      have HNN : Hid (u5 ≠ .slice none 0 0) := hnn
      have HAL : Hid (acc.length ≤ s.size) := hal
      clear hSP hsp hown hit hbw hok hnn hal HP'
      go_upto_if 36 with fail
      go_cut [5] (fun s5 wx => Hid (wx.ownsRow w.heap.size 63 2 s5 (spansOfP p s).length (spanCells (spansOfP p s)) ∧ Below w.heap.size w wx ∧ s5 ≠ .slice none 0 0))
      case first =>
        cases st with
        | none =>
          have hz0' : z < 0 := hzn rfl
          go_wp2_with fail
          go_meet
          exact ⟨by rw [HSP.out]; exact HOW.out, HBW.out, HNN.out⟩
        | some a =>
          have hza : z = (a : Int) := hzs a rfl
          subst hza
          have hap := hst a rfl
          clear hzn hzs hst
          go_wp2_with (at_builtin; go_must (refine wpList_append_own _ rfl (.tmp 37) (.tmp 42) 61 rfl w.heap.size 63 i0 (.agg #[.int .i64 0, .int .i64 0]) 2 16 (by kernel_rfl) hi hz0 hz1 hz2 rfl (by decide) _ _ _ rfl (HOW.out.alloc _) ⟨wr.heap.size, 0, none⟩ 1 1 [.int .i64 (a : Int), .int .i64 (s.size : Int)] rfl rfl (cell_two_new' _ _ _ _) (by intro u hu; simp at hu; rcases hu with rfl | rfl <;> rfl) (by have := HAL.out; unfold maxLen; omega) (by have := HAL.out; omega) (by have := HBW.out.size; simp; omega) ?_; intro v3 w3 hown3 hgrow3 hnil3))
          have hX := HOW.out.alloc (.cells #[.int .i64 (a : Int), .int .i64 (s.size : Int)] 63)
          have HR : Hid (w3.ownsRow w.heap.size 63 2 v3 (spansOfP p s).length (spanCells (spansOfP p s)) ∧ Below w.heap.size w w3 ∧ v3 ≠ .slice none 0 0) :=
            ⟨by rw [HSP.out]; show w3.ownsRow _ _ _ _ (acc ++ [(a, s.size)]).length (spanCells (acc ++ [(a, s.size)])); rw [List.length_append, Lib.spanCells_snoc]; exact hown3,
            (HBW.out.alloc HBW.out.size _).grown hgrow3 (by have := HBW.out.size; simp; omega) (fun j hj => (hX.lt j hj).1), fun h => by have := (hnil3.1 h).2; omega⟩
          clear hX hown3 hgrow3 hnil3
          go_wp2_with fail
          go_meet
          exact HR
      case rest =>
        clear hzn hzs hst HSP HOW HBW HNN HAL hnx
        obtain ⟨hownS, hbS, hnnS⟩ := hcut.out
        clear hcut
        obtain ⟨SP, hSPe⟩ : ∃ SP, spansOfP p s = SP := ⟨_, rfl⟩
        have HSPE : Hid (spansOfP p s = SP) := hSPe
        have hokS := HOK.out.1
        have hlenS := HOK.out.2
        rw [hSPe] at hownS hokS hlenS
        have HOKS : Hid (∀ x ∈ SP, x.1 ≤ x.2 ∧ x.2 ≤ s.size) := hokS
        clear HOK hokS hSPe
        obtain ⟨g5, cap5, rfl⟩ : ∃ g5 cap5, u5 = .slice (some ⟨g5, 0, none⟩) SP.length cap5 := by
          rcases hownS.2 with ⟨h, _⟩ | ⟨g5, cap5, _, h, _⟩
          · exact absurd h hnnS
          · exact ⟨g5, cap5, h⟩
        have hg5 : g5 < wc.heap.size := (hownS.lt g5 rfl).2
        obtain ⟨i9, hi9', hz90, hz91, hz92⟩ := info_parts infoSs
        obtain ⟨W5, hmk5, hown5, hgr5⟩ := run_make_full (P := Try.prog) wc w.heap.size 29 9 i9 _ 1 (by kernel_rfl) hi9' hz90 hz91 .i64 .i64 SP.length (by rw [hz92]; omega) (by unfold maxLen; omega) hbS.size
        rw [show (Value.string ⟨#[]⟩).cells = #[Value.string ⟨#[]⟩] from rfl, Nat.mul_one, toList_madeCells_one, ← Lib.rowAt_zero s SP] at hown5
        have HS5 : Hid (W5.ownsRow w.heap.size 63 2 (.slice (some ⟨g5, 0, none⟩) SP.length cap5) SP.length (spanCells SP)) := hownS.kept hgr5 (Classical.em _)
        have HB5 : Hid (Below w.heap.size w W5) := hbS.grown hgr5 hbS.size (fun k hk => by cases hk)
        have HO5 : Hid (W5.ownsRow w.heap.size 9 1 (.slice (some ⟨wc.heap.size, 0, none⟩) SP.length SP.length) SP.length (Lib.rowAt s SP 0)) := hown5
        have HLO : Hid (w.heap.size ≤ wc.heap.size) := hbS.size
        clear hownS hbS hnnS hown5 hgr5
        go_wp2_with fail
        go_loopg [49] SP.length (fun gf s49 wx => ∃ i : Nat, i + gf = SP.length ∧ s49 = .int .i64 i ∧ Hid (wx.ownsRow w.heap.size 9 1 (.slice (some ⟨wc.heap.size, 0, none⟩) SP.length SP.length) SP.length (Lib.rowAt s SP i)) ∧
          Hid (wx.ownsRow w.heap.size 63 2 (.slice (some ⟨g5, 0, none⟩) SP.length cap5) SP.length (spanCells SP)) ∧ Hid (Below w.heap.size w wx))
        case atStart => exact ⟨0, by omega, rfl, HO5, HS5, HB5⟩
        case round =>
          obtain ⟨i, hig, rfl, HA, HS, HBR⟩ := hrel
          clear HS5 HB5 HO5
          cases gk with
          | zero =>
            have hin : ¬ ((i : Int) < (SP.length : Int)) := by omega
            obtain rfl : i = SP.length := by omega
            go_wp2_with fail
            go_ret
            have hA := HA.out
            rw [Lib.rowAt_all] at hA
            have hE : goFieldsP p s = SP.map fun x => s.extract x.1 x.2 := by rw [HG.out, HSPE.out]
            refine ⟨wc.heap.size, ?_, ?_, HBR.out⟩
            · rw [hE, List.length_map]; rfl
            · rw [hE, List.length_map, List.map_map]; exact hA
          | succ gf =>
            have hin : (i : Int) < (SP.length : Int) := by omega
            obtain ⟨x, hx⟩ : ∃ x, SP[i]? = some x := ⟨_, List.getElem?_eq_getElem (by omega)⟩
            have hxo := HOKS.out x (List.mem_of_getElem? hx)
            have hc0 : wr.cell? ⟨g5, i * 2, none⟩ = some (.int .i64 x.1) := (HS.out.cellAt (i * 2) (by omega)).trans (Lib.spanCells_at SP i x hx).1
            have hc1 : wr.cell? ⟨g5, i * 2 + 1, none⟩ = some (.int .i64 x.2) := (HS.out.cellAt (i * 2 + 1) (by omega)).trans (Lib.spanCells_at SP i x hx).2
            have hA' := HA.out.alloc (.cells #[.int .i64 (x.1 : Int), .int .i64 (x.2 : Int)] 63)
            have hS' := HS.out.alloc (.cells #[.int .i64 (x.1 : Int), .int .i64 (x.2 : Int)] 63)
            obtain ⟨old, hold⟩ : ∃ old, (Lib.rowAt s SP i)[i]? = some old := ⟨_, List.getElem?_eq_getElem (by have := HA.out.1; omega)⟩
            have hcA := (hA'.cellAt i (by omega)).trans hold
            have hfA := hA'.frozenAt i
            have hst' := hA'.stored i (.string (s.extract x.1 x.2))
            rw [Lib.rowAt_set s SP i x hx] at hst'
            have HN := hidF (⟨hst'.1, hS'.kept hst'.2 (by simp [Value.ownBlock]; omega), (HBR.out.alloc HBR.out.size _).grown hst'.2 (by have := HBR.out.size; simp; omega) (fun k hk => by cases hk; exact HLO.out)⟩ : _ ∧ _ ∧ _)
            clear hst' hA' hS' hold
            go_wp2_with fail
            go_roundg gf
            case measure => omega
            case rel =>
              exact ⟨i + 1, by omega, by go_num, HN.out.1, HN.out.2.1, HN.out.2.2⟩
end Go.Proofs.Ytonhgejfbieanal
