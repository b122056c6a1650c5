/- impl.ValueText of a number, and the law on numbers' worth. -/
import Derived.Test.YtlfamgdmmenonaaDoorVnd
import Derived.Test.YtlfamgdmmenonaaDoorVvw
import Derived.Test.YtlfamgdmmenonaaDoorDbx
namespace Go.Proofs.YtlfamgdmmenonaaDoor
open Go.ChangeShapes Go.WideShapes Go.ChangeAt Go.RowKit
set_option maxRecDepth 100000 in
theorem worthIn_num (n : Int) (w : World) :
    Calls Tryd.prog 25 #[.agg #[.int .i64 3, .int .i64 n, .bool false, .string ⟨#[]⟩]] w fun e w' => e = .returned (.iface 70 (.int .i64 n)) ∧ Below w.heap.size w w' := by
  have HB : Hid (Below w.heap.size w (w.alloc (.cells #[.int .i64 3, .int .i64 n, .bool false, .string ⟨#[]⟩] 28))) := (Below.refl _ w).alloc (Nat.le_refl _) _
  go_enter Tryd.func25, Tryd.ntmps25
  go_wp2_with fail
  go_ret
  exact ⟨rfl, HB.out⟩
theorem itoa_nt (n : Int) (h0 : 0 ≤ n) (h1 : n ≤ 4294967295) : (⟨(Lib.itoa n).toArray⟩ : ByteArray) = nt n := by rw [nt_good n h0 h1, itoa_nat n h0]
set_option maxRecDepth 100000 in
theorem worthLine_num (n : Int) (h0 : 0 ≤ n) (h1 : n ≤ 4294967295) (w : World) (ht : TabV w) :
    Calls Tryd.prog 24 #[.iface 70 (.int .i64 n)] w fun e w' => e = .returned (.string (⟨#[105, 110, 116, 32]⟩ ++ nt n)) ∧ Below w.heap.size w w' := by
  have hN : ∀ W, (Instr.typeAssert (.iface 70 (.int .i64 n)) 53 77 true).run Tryd.prog W = .ok (.tuple #[.agg #[], .bool false]) W := fun W => by kernel_rfl
  have hB : ∀ W, (Instr.typeAssert (.iface 70 (.int .i64 n)) 53 68 true).run Tryd.prog W = .ok (.tuple #[.bool false, .bool false]) W := fun W => by kernel_rfl
  have hI : ∀ W, (Instr.typeAssert (.iface 70 (.int .i64 n)) 53 70 true).run Tryd.prog W = .ok (.tuple #[.int .i64 n, .bool true]) W := fun W => by kernel_rfl
  have cI := Tryd.strconv_Itoa n (by omega) (by omega) w ht
  rw [itoa_nt n h0 h1] at cI
  have hz := nt_size n
  generalize nt n = t at *
  clear h0 h1 ht
  go_enter Tryd.func24, Tryd.ntmps24
  go_wp2_with fail
  refine cI.mono ?_
  rintro e w1 ⟨rfl, k, os, hw⟩
  have HB : Hid (Below w.heap.size w w1) := by show Below _ _ _; rw [hw]; exact below_grow w k os
  clear hw
  go_wp2_with fail
  go_ret
  exact ⟨rfl, HB.out⟩
theorem valueText_num (n : Int) (h0 : 0 ≤ n) (h1 : n ≤ 4294967295) (w : World) (ht : TabV w) :
    Calls Tryd.prog 10 #[.agg #[.int .i64 3, .int .i64 n, .bool false, .string ⟨#[]⟩]] w fun e w' => e = .returned (.string (⟨#[105, 110, 116, 32]⟩ ++ nt n)) ∧ Below w.heap.size w w' := by
  have HB : Hid (Below w.heap.size w (w.alloc (.cells #[.int .i64 3, .int .i64 n, .bool false, .string ⟨#[]⟩] 28))) := (Below.refl _ w).alloc (Nat.le_refl _) _
  have HT : Hid (TabV w) := ht
  have cL : Hid (∀ w, TabV w → Calls Tryd.prog 24 #[.iface 70 (.int .i64 n)] w fun e w' => e = .returned (.string (⟨#[105, 110, 116, 32]⟩ ++ nt n)) ∧ Below w.heap.size w w') := fun w ht => worthLine_num n h0 h1 w ht
  clear ht
  go_enter Tryd.func10, Tryd.ntmps10
  go_wp2_with fail
  refine (worthIn_num n _).mono ?_
  rintro e w1 ⟨rfl, hb1⟩
  have HB1 : Hid (Below w.heap.size w w1) := HB.out.trans (hb1.mono HB.out.size)
  clear hb1 HB
  go_wp2_with fail
  refine (cL.out _ (HT.out.lasts HB1.out)).mono ?_
  rintro e w2 ⟨rfl, hb2⟩
  go_wp2_with fail
  go_ret
  exact ⟨rfl, HB1.out.trans (hb2.mono HB1.out.size)⟩
/-- An event of a text that is a number. -/
def evN (st : Int) (s : ByteArray) : Ev := ⟨5, st, false, s, ⟨#[]⟩, ⟨#[]⟩, 0, 0⟩
theorem noB_nil : noB ⟨#[]⟩ = true := by kernel_rfl
theorem evN_ok (st : Int) (h1 : 1 ≤ st) (h5 : st ≤ 5) (s : ByteArray) : evOk (evN st s) = true := by
  have hm : nmOk ⟨#[]⟩ = true := by kernel_rfl
  unfold evOk evN loK hiK
  rw [if_neg (by simp; omega)]
  have hb : evBad ⟨5, st, false, s, ⟨#[]⟩, ⟨#[]⟩, 0, 0⟩ = false := by
    unfold evBad nodeK
    simp [noB_nil]
  rw [if_neg (by rw [hb]; exact Bool.false_ne_true)]
  unfold evRest
  rw [if_neg (by show ¬ (5 : Int) = 10; decide), if_neg (by rintro ⟨h, _⟩; have h : (5 : Int) = 6 := h; omega)]
  simp [hm, ByteArray.size]
theorem evN_1 (s : ByteArray) : vaV (evN 1 s) = plV s := by
  have ht : (ByteArray.mk #[]).toList = [] := by kernel_rfl
  unfold vaV
  rw [if_pos (evN_ok 1 (by omega) (by omega) s)]
  show scV 1 s ⟨#[]⟩ = _
  unfold scV
  rw [if_pos ht, if_pos rfl]
theorem evN_2 (s : ByteArray) : vaV (evN 2 s) = ⟨4, 0, false, s⟩ := by
  have ht : (ByteArray.mk #[]).toList = [] := by kernel_rfl
  unfold vaV
  rw [if_pos (evN_ok 2 (by omega) (by omega) s)]
  show scV 2 s ⟨#[]⟩ = _
  unfold scV
  rw [if_pos ht, if_neg (by decide)]
theorem intOf_at (s : ByteArray) (r : Int) (hn : numOf s = (r, true)) (w : World) (hs : s.size ≤ 1048576) (hv : NumV w) :
    Calls Tryd.prog 8 #[.string s] w fun e w' => e = .returned (.tuple #[.int .i64 r, .bool true]) ∧ Below w.heap.size w w' := by
  refine (intOf_I s w hs hv).mono ?_
  rintro e w' ⟨⟨r', b', rfl, h⟩, hb⟩
  rw [hn] at h
  obtain ⟨rfl, rfl⟩ := Prod.mk.inj h
  exact ⟨rfl, hb⟩
theorem wf5 : (Lit.int .i64 5).wf = true := by decide
theorem wf2 : (Lit.int .i64 2).wf = true := by decide
theorem wf1 : (Lit.int .i64 1).wf = true := by decide
theorem wf0 : (Lit.int .i64 0).wf = true := by decide
theorem val_at (st : Int) (h1 : st = 1 ∨ st = 2) (s : ByteArray) (v : Va) (hv0 : vaV (evN st s) = v) (w : World) (hs : s.size ≤ 1000) (hv : NumV w) :
    Calls Tryd.prog 9 #[.agg #[.int .i64 5, .int .i64 st, .bool false, .string s, .string ⟨#[]⟩, .string ⟨#[]⟩, .int .i64 0, .int .i64 0]] w fun e w' => e = .returned (.agg v.row) ∧ Below w.heap.size w w' := by
  rw [← hv0]
  refine valueOf_any (evN st s) w ?_ ?_ hv
  · show s.size + 0 + 0 ≤ _
    omega
  · rcases h1 with rfl | rfl
    · exact ⟨wf5, wf1, wf0, wf0⟩
    · exact ⟨wf5, wf2, wf0, wf0⟩
/-- What is gathered of bytes keeps below the prime. -/
def nxN (n x : Int) : Int := (n * 31 + x) % 1000000007
theorem nxN_in (n x : Int) : 0 ≤ nxN n x ∧ nxN n x < 1000000007 := by
  unfold nxN
  omega
set_option maxRecDepth 100000 in
set_option maxHeartbeats 8000000 in
theorem law_value (a : Option Addr) (len cap : Nat) (w : World) (hb : len ≤ 1048576 → Bs w.heap.size a len w) (hv : NumV w) (ht : TabV w) :
    Calls Tryd.prog 3 #[.slice a len cap] w fun e w' => e = .returned (.bool true) ∧ Below w.heap.size w w' := by
  by_cases hbig : (1048576 : Int) < (len : Int)
  · clear hb hv ht
    go_enter Tryd.func3, Tryd.ntmps3
    go_wp2_with fail
    go_ret
    exact ⟨rfl, Below.refl _ _⟩
  · have hb' := hb (by omega)
    have cM := makeBytes_any a len cap w hb'
    have HV : Hid (NumV w ∧ TabV w) := ⟨hv, ht⟩
    clear hb hb' hv ht
    go_enter Tryd.func3, Tryd.ntmps3
    go_wp2_with fail
    refine cM.mono ?_
    rintro e w1 ⟨v, zs, rfl, ⟨v0, v1, v2, rfl⟩, hl, ho, hS, hb1⟩
    have HB1 : Hid (Below w.heap.size w w1) := hb1
    have HO : Hid (okz zs) := ho
    have hn1 : v1 = zs.length := by
      rcases hS with ⟨hz, x, c, e⟩ | ⟨hz, b, off, c, e, _⟩
      · injection e with _ e _; rw [hz, e]; rfl
      · injection e with _ e _
    subst hn1
    have HC : Hid (∀ i, (h : i < zs.length) → ∃ b off, v0 = some ⟨b, off, none⟩ ∧ w1.cell? ⟨b, off + i, none⟩ = some (.int .u8 (zs[i]))) := fun i h => by
      rcases hS with ⟨hz, _⟩ | ⟨hz, b, off, c, e, _, _, hc⟩
      · rw [hz] at h; simp at h
      · injection e with e _ _
        refine ⟨b, off, e, ?_⟩
        rw [hc i h]
        simp [List.getD, List.getElem?_eq_getElem h]
    have hl' : (zs.length : Int) ≤ 40 := by omega
    clear cM hb1 ho hS
    go_wp2_with fail
    go_loop [4, 21] (fun nv iv => ∃ (k : Nat) (n : Int), nv = .int .i64 n ∧ iv = .int .i64 k ∧ k ≤ zs.length ∧ 0 ≤ n ∧ n < 1000000007) (fun _ iv => zs.length - (intOf iv).toNat)
    case atStart => exact ⟨0, 0, rfl, rfl, by omega, by omega, by omega⟩
    case round =>
      obtain ⟨k, n, rfl, rfl, hk, hn0, hn1⟩ := hrel
      by_cases hlt : k < zs.length
      · obtain ⟨b, off, rfl, hc⟩ := HC.out k hlt
        obtain ⟨x, hx⟩ : ∃ x, zs[k] = x := ⟨_, rfl⟩
        obtain ⟨x0, x1⟩ : 0 ≤ x ∧ x < 256 := by rw [← hx]; exact HO.out _ (List.getElem_mem hlt)
        rw [hx] at hc
        have hltI : (k : Int) < (zs.length : Int) := by omega
        have HN : Hid (0 ≤ nxN n x ∧ nxN n x < 1000000007) := nxN_in n x
        clear hx
        go_wp2_with fail
        go_round
        case rel => exact ⟨k + 1, nxN n x, by first | rfl | (unfold nxN; go_num), by go_num, by omega, HN.out.1, HN.out.2⟩
        case measure => simp [intOf]; omega
      · have hlt' : ¬ (k : Int) < (zs.length : Int) := by omega
        have hnn := nt_num n hn0 (by omega)
        have hpl := nt_plV n hn0 (by omega)
        have hsz := nt_size n
        have cN : Hid (∀ w, TabV w → Calls Tryd.prog 7 #[.int .i64 n] w fun e w' => e = .returned (.string (nt n)) ∧ Below w.heap.size w w') := fun w h => impl_nt n w h
        have cT : Hid (∀ w, TabV w → Calls Tryd.prog 10 #[.agg #[.int .i64 3, .int .i64 n, .bool false, .string ⟨#[]⟩]] w fun e w' => e = .returned (.string (⟨#[105, 110, 116, 32]⟩ ++ nt n)) ∧ Below w.heap.size w w') := fun w h => valueText_num n hn0 (by omega) w h
        have cM : Hid (∀ w, NumV w → Calls Tryd.prog 8 #[.string (⟨#[45]⟩ ++ nt n)] w fun e w' => e = .returned (.tuple #[.int .i64 (-n), .bool true]) ∧ Below w.heap.size w w') := fun w h => intOf_at _ _ hnn.2.1 w (by rw [ByteArray.size_append]; show 1 + _ ≤ _; omega) h
        have cP : Hid (∀ w, NumV w → Calls Tryd.prog 8 #[.string (⟨#[43, 48, 48]⟩ ++ nt n)] w fun e w' => e = .returned (.tuple #[.int .i64 n, .bool true]) ∧ Below w.heap.size w w') := fun w h => intOf_at _ _ hnn.2.2 w (by rw [ByteArray.size_append]; show 3 + _ ≤ _; omega) h
        have c1 : Hid (∀ w, NumV w → Calls Tryd.prog 9 #[.agg #[.int .i64 5, .int .i64 1, .bool false, .string (nt n), .string ⟨#[]⟩, .string ⟨#[]⟩, .int .i64 0, .int .i64 0]] w fun e w' => e = .returned (.agg #[.int .i64 3, .int .i64 n, .bool false, .string ⟨#[]⟩]) ∧ Below w.heap.size w w') := fun w h => val_at 1 (.inl rfl) (nt n) ⟨3, n, false, ⟨#[]⟩⟩ (by rw [evN_1, hpl]) w (by omega) h
        have c2 : Hid (∀ w, NumV w → Calls Tryd.prog 9 #[.agg #[.int .i64 5, .int .i64 2, .bool false, .string (nt n), .string ⟨#[]⟩, .string ⟨#[]⟩, .int .i64 0, .int .i64 0]] w fun e w' => e = .returned (.agg #[.int .i64 4, .int .i64 0, .bool false, .string (nt n)]) ∧ Below w.heap.size w w') := fun w h => val_at 2 (.inr rfl) (nt n) ⟨4, 0, false, nt n⟩ (evN_2 _) w (by omega) h
        clear hnn hpl HC HO
        generalize nt n = t at *
        go_wp2_with fail
        refine (cN.out _ (HV.out.2.lasts HB1.out)).mono ?_
        rintro e w2 ⟨rfl, hb2⟩
        have HB2 : Hid (Below w.heap.size w w2) := HB1.out.trans (hb2.mono HB1.out.size)
        clear hb2 HB1 cN
        go_wp2_with fail
        refine (cM.out _ (HV.out.1.later HB2.out)).mono ?_
        rintro e w3 ⟨rfl, hb3⟩
        have HB3 : Hid (Below w.heap.size w w3) := HB2.out.trans (hb3.mono HB2.out.size)
        clear hb3 HB2 cM
        go_wp2_with fail
        refine (cP.out _ (HV.out.1.later HB3.out)).mono ?_
        rintro e w4 ⟨rfl, hb4⟩
        have HB4 : Hid (Below w.heap.size w w4) := HB3.out.trans (hb4.mono HB3.out.size)
        clear hb4 HB3 cP
        go_wp2_with fail
        refine (c1.out _ (HV.out.1.later HB4.out)).mono ?_
        rintro e w5 ⟨rfl, hb5⟩
        have HB5 : Hid (Below w.heap.size w w5) := HB4.out.trans (hb5.mono HB4.out.size)
        obtain ⟨W5, hW5⟩ : ∃ W5, w5.alloc (.cells #[.int .i64 3, .int .i64 n, .bool false, .string ⟨#[]⟩] 28) = W5 := ⟨_, rfl⟩
        have HC5 : Hid (Below w.heap.size w W5) := by show Below _ _ _; rw [← hW5]; exact HB5.out.alloc HB5.out.size _
        have P5 : Hid (W5.heap[w5.heap.size]? = some (.cells #[.int .i64 3, .int .i64 n, .bool false, .string ⟨#[]⟩] 28 (0, 0))) := by show _ = _; rw [← hW5]; exact heap_alloc_new w5 _
        have S5 : Hid (w5.heap.size < W5.heap.size) := by show _ < _; rw [← hW5]; show w5.heap.size < (w5.heap.push _).size; simp
        clear hb5 HB4 c1 HB5
        subst hW5
        go_wp2_with fail
        refine (c2.out _ (HV.out.1.later HC5.out)).mono ?_
        rintro e w6 ⟨rfl, hb6⟩
        have HB6 : Hid (Below w.heap.size w w6) := HC5.out.trans (hb6.mono HC5.out.size)
        have P6 : Hid (w6.heap[w5.heap.size]? = some (.cells #[.int .i64 3, .int .i64 n, .bool false, .string ⟨#[]⟩] 28 (0, 0))) := (hb6.block _ S5.out).trans P5.out
        have S6 : Hid (w5.heap.size < w6.heap.size) := Nat.lt_of_lt_of_le S5.out hb6.size
        clear hb6 HC5 P5 S5 c2
        obtain ⟨W6, hW6⟩ : ∃ W6, w6.alloc (.cells #[.int .i64 4, .int .i64 0, .bool false, .string t] 28) = W6 := ⟨_, rfl⟩
        have HC6 : Hid (Below w.heap.size w W6) := by show Below _ _ _; rw [← hW6]; exact HB6.out.alloc HB6.out.size _
        have Q6 : W6.heap[w6.heap.size]? = some (.cells #[.int .i64 4, .int .i64 0, .bool false, .string t] 28 (0, 0)) := by rw [← hW6]; exact heap_alloc_new w6 _
        have Q5 : W6.heap[w5.heap.size]? = some (.cells #[.int .i64 3, .int .i64 n, .bool false, .string ⟨#[]⟩] 28 (0, 0)) := by
          rw [← hW6]
          show (w6.heap.push _)[w5.heap.size]? = _
          rw [Array.getElem?_push, if_neg (by have := S6.out; omega)]
          exact P6.out
        obtain ⟨x0, x1, x2, x3⟩ : _ ∧ _ ∧ _ ∧ _ := ⟨v4_0 Q6, v4_1 Q6, v4_2 Q6, v4_3 Q6⟩
        obtain ⟨y0, y1, y2, y3⟩ : _ ∧ _ ∧ _ ∧ _ := ⟨v4_0 Q5, v4_1 Q5, v4_2 Q5, v4_3 Q5⟩
        have e1 : (-n == -n) = true := beq_self_eq_true _
        have e2 : (n == n) = true := beq_self_eq_true _
        have e3 : (t.toList == t.toList) = true := beq_self_eq_true _
        clear Q6 Q5 P6 S6 HB6
        subst hW6
        go_wp2_with fail
        refine (cT.out _ (HV.out.2.lasts HC6.out)).mono ?_
        rintro e w7 ⟨rfl, hb7⟩
        have HB7 : Hid (Below w.heap.size w w7) := HC6.out.trans (hb7.mono HC6.out.size)
        clear hb7 HC6 cT
        go_wp2_with fail
        go_ret
        exact ⟨rfl, HB7.out⟩
end Go.Proofs.YtlfamgdmmenonaaDoor
