/- The law on a source: at every list of bytes it returns true. -/
import Derived.Test.YtopmboioojedbacFpu
import Derived.Test.YtopmboioojedbacDby
import Derived.Test.YtopmboioojedbacIrw
import Derived.Laws.BytesArg
import Derived.Deep.Quiet
import Derived.BigQuiet
namespace Go.Proofs.Ytopmboioojedbac
open Go.Maps Go.RowKit Go.BigFrame
theorem conv_sl (B : Nat) (w : World) (v : Value) (zs : List Int) (h : Sl B w v zs) : (convert 22 9 v).run Try.prog w = .ok (.string (strOfNums zs)) w := by
  rcases h with ⟨rfl, a, c, rfl⟩ | ⟨_, b, off, c, rfl, _, _, hc⟩
  · cases a with
    | none => exact run_convert_bytes_nil w 22 5 Try.underlying22 Try.underlying5 0 c 9 Try.underlying9
    | some a =>
      rw [run_convert_bytes_string w 22 9 5 _ 0 c Try.underlying22 Try.underlying5 Try.underlying9]
      exact run_bytesToString w a 0 c [] (by simp [loadCells, loadCellsFrom, Sem.run_pure])
  · exact run_convert_bytes_arg w 22 5 Try.underlying22 Try.underlying5 b off zs.length c zs rfl hc 9 Try.underlying9
/-- What the run of the whole stream from a new source answers. -/
theorem run_all {S : Nat} {zs : List Int} (s1 : 1 ≤ S) (s2 : S ≤ 60000) (hz : zs.length ≤ 60000) (ho : okz zs) :
    ∃ f qs, runR S 0 [] zs 0 zs.length = (((S : Int), qs, f), zs) ∧ OkS S qs f ∧ Iv S zs zs.length f qs ∧ okd qs ∧ f = (((zs.length + S - 1) / S : Nat) : Int) := by
  have hO : OkS S [] 0 := ⟨by omega, by omega, by simp, by omega, by omega, fun q hq => (by cases hq), by simp⟩
  have h := iv_run (S := S) (by omega) hz ho zs.length 0 (by omega) (iv_start S zs (by omega))
  have hk := runM_ok (zs := zs) zs.length hO (Int.le_refl 0)
  have hd := runM_okd (size := S) ho zs.length (at_ := 0) (f := 0) (qs := []) (fun q hq => by cases hq)
  refine ⟨_, _, ?_, hk, h.1, hd, h.1.hf⟩
  unfold runR
  rw [if_pos ⟨okS_iff.2 hO, Int.le_refl 0, by omega⟩]
  have e : ((zs.length : Int) - 0).toNat = zs.length := by omega
  rw [e]
  have h2 : (runM (S : Int) zs zs.length (0 : Int) 0 []).2 = zs := by
    have := h.2
    rw [List.drop_zero] at this
    exact this
  rw [h2]
theorem byte_last {S : Nat} {zs : List Int} {f : Int} {qs : List Pg} (hO : OkS S qs f) (h : Iv S zs zs.length f qs) (hz : zs.length ≤ 60000) (h0 : 0 < zs.length) :
    ∃ qs', byteM S f qs zs ((zs.length : Int) - 1) = (((S : Int), qs', f), zs.getD (zs.length - 1) 0) := by
  have hS : 0 < S := by have := hO.s1; omega
  obtain ⟨h1, h2⟩ := iv_again hS h h0
  refine ⟨(readM S f qs zs ((zs.length : Int) - 1)).1.2, ?_⟩
  unfold byteM
  rw [if_pos ⟨okS_iff.2 hO, by omega, by omega⟩, h1, h2]
theorem own_arg {lo : Nat} {w : World} {v vb : Value} {qs : List Pg} {zs : List Int} (h : Own lo w v qs) (hd : okd qs) (hw : ∀ q ∈ qs, (Lit.int .i64 q.1).wf = true) (hb : Sl w.heap.size w vb zs) (hz : okz zs) (hl : zs.length ≤ 1048576) : ∃ ps, Arg w v ps qs vb zs := by
  obtain ⟨ps, h1, h2, _⟩ := h
  have hq := pq_of_do h2
  refine ⟨ps, slp_of_own h1, hq, fun p hp => ?_, hd, hb, hz, hl⟩
  have hm : p.1 ∈ qs.map (·.1) := by rw [← hq.nums]; exact List.mem_map.2 ⟨p, hp, rfl⟩
  obtain ⟨q, hq1, hq2⟩ := List.mem_map.1 hm
  rw [← hq2]
  exact hw q hq1
theorem iv_wf {S : Nat} {zs : List Int} {k : Nat} {f : Int} {qs : List Pg} (hS : 0 < S) (h : Iv S zs k f qs) (hk : k ≤ 60000) : ∀ q ∈ qs, (Lit.int .i64 q.1).wf = true := by
  intro q hq
  obtain ⟨j, h1, h2, _⟩ := h.each q hq
  have : j ≤ j * S := Nat.le_mul_of_pos_right j hS
  rw [h1]
  exact wfi (by omega) (by omega)
theorem own_len {lo : Nat} {w : World} {v : Value} {qs : List Pg} (h : Own lo w v qs) : ∃ a c, v = .slice a qs.length c := by
  obtain ⟨ps, h1, h2, _⟩ := h
  have e := h2.len
  rcases slp_of_own h1 with ⟨e1, a, c, e2⟩ | ⟨_, b, off, c, e2, _⟩
  · exact ⟨a, c, by rw [e2, ← e, e1]; rfl⟩
  · exact ⟨_, c, by rw [e2, e]⟩
theorem wrap_small (n : Nat) (h : n < 9223372036854775808) : IntKind.i64.wrap (n : Int) = (n : Int) := by
  have e : (n : Int) % 2 ^ 64 = n := Int.emod_eq_of_lt (by omega) (by omega)
  simp only [IntKind.wrap, IntKind.bits, IntKind.signed, e]
  rw [if_neg]
  simp
  omega
theorem below_dn (w : World) (n : Nat) : Below w.heap.size w (w.drewN n) := by
  induction n with
  | zero => exact Below.refl _ _
  | succ n ih => exact ih.drew
theorem quo_is (n S : Nat) (hn : n ≤ 60000) (hS : 1 ≤ S) (hS2 : S ≤ 9) : IntKind.i64.wrap (((n : Int) + (S : Int) - 1).tdiv (S : Int)) = (((n + S - 1) / S : Nat) : Int) := by
  have e : (n : Int) + (S : Int) - 1 = ((n + S - 1 : Nat) : Int) := by omega
  have hle : (n + S - 1) / S ≤ n + S - 1 := Nat.div_le_self _ _
  rw [e, Int.tdiv_eq_ediv_of_nonneg (by omega), ← Int.natCast_ediv]
  exact wrap_small _ (by omega)
/-- A later world in which what was there is as it was. -/
structure Bw (w : World) where
  val : World
  ok : Below w.heap.size w val
/-- A region that draws its order, whose operations read what was there and whose calls leave it as it was: one walk serves every order. -/
theorem wp_region_bw {P : Program} {id : Nat} {Q : Exit → Act → World → Prop} {a : Act} {w0 w : World} {l : List Oper} (hm : P.follows .mixedOrders = true) (hB : Region.lexB .any l.toArray = true) (hC : Below w0.heap.size w0 w)
    (h : wpQuiet P l.toArray (fun w' => ∃ n : Bw w0, w' = n.val) (fun a' => ∀ w', (∃ n : Bw w0, w' = n.val) → Q .normal a' w') l a) : (Code.region id l.toArray true).wp P Q a w := by
  refine wp_region_quiet (C := fun w' => ∃ n : Bw w0, w' = n.val) hm hB ⟨⟨w.drew, hC.drew⟩, rfl⟩ ?_
  rw [List.toList_toArray]
  exact h
set_option maxHeartbeats 8000000 in
theorem law_source (a : Option Addr) (len cap : Nat) (w : World) (hb : len ≤ 1048576 → Bs w.heap.size a len w) :
    Calls Try.prog 3 #[.slice a len cap] w fun e w' => e = .returned (.bool true) ∧ Below w.heap.size w w' := by
  by_cases hbig : (1048576 : Int) < (len : Int)
  · clear hb
    go_enter Try.func3, Try.ntmps3
    go_wp2_with fail
    go_ret
    exact ⟨rfl, Below.refl _ _⟩
  have hb' := hb (by omega)
  have cM := makeBytes_any a len cap w hb'
  have HBS : Hid (Bs w.heap.size a len w) := hb'
  clear hb hb'
  go_enter Try.func3, Try.ntmps3
  go_wp2_with fail
  refine cM.mono ?_
  rintro e w1 ⟨vb, zs, rfl, _, hzl, hzo, hzs, hB1⟩
  obtain ⟨b0, b2, rfl⟩ := sl_len hzs
  have HZS : Hid (Sl w1.heap.size w1 (.slice b0 zs.length b2) zs) := hzs
  have HZO : Hid (okz zs) := hzo
  have cN := makeNum_any a len cap 9 w1 ((HBS.out.later hB1).mono hB1.size) (by decide) (by decide)
  clear cM hzs hzo HBS
  go_wp2_with fail
  refine cN.mono ?_
  rintro e w2 ⟨⟨v, rfl, hv0, hv1⟩, hb2⟩
  clear cN
  have hB2 : Below w.heap.size w w2 := hB1.trans (hb2.mono hB1.size)
  have HZ2 : Hid (Sl w2.heap.size w2 (.slice b0 zs.length b2) zs) := ((HZS.out.stays hb2).mono hb2.size)
  clear HZS hB1 hb2
  go_wp2_with fail
  obtain ⟨S, hS⟩ : ∃ S : Nat, 1 + v = (S : Int) := ⟨(1 + v).toNat, by omega⟩
  have hs1 : 1 ≤ S := by omega
  have hs9 : S ≤ 9 := by omega
  rw [hS]
  clear hS hv0 hv1
  have hO0 : okS (S : Int) [] 0 = true := okS_iff.2 ⟨by omega, by omega, by simp, by omega, by omega, fun q hq => (by cases hq), by simp⟩
  have cW := inew_ w2 (S : Int)
  unfold newM at cW
  rw [hO0, if_pos rfl] at cW
  clear hO0
  refine cW.mono ?_
  rintro e w3 ⟨rfl, hb3⟩
  clear cW
  have hB3 : Below w.heap.size w w3 := hB2.trans (hb3.mono hB2.size)
  have HZ3 : Hid (Sl w3.heap.size w3 (.slice b0 zs.length b2) zs) := ((HZ2.out.stays hb3).mono hb3.size)
  clear HZ2 hB2 hb3
  obtain ⟨f, qs, hR, hOK, hIV, hOD, hf⟩ := run_all hs1 (by omega) (by omega : zs.length ≤ 60000) HZO.out
  have HR : Hid (runR S 0 [] zs 0 zs.length = (((S : Int), qs, f), zs)) := hR
  have HOK : Hid (OkS S qs f) := hOK
  have HIV : Hid (Iv S zs zs.length f qs) := hIV
  have HOD : Hid (okd qs) := hOD
  have HF : Hid (f = (((zs.length + S - 1) / S : Nat) : Int)) := hf
  have hq6 : qs.length ≤ 6 := hOK.len
  clear hR hOK hIV hOD hf
  go_wp2_with fail
  have HZ4 : Hid (Sl (w3.alloc (.cells #[.int .i64 (S : Int), .slice none 0 0, .int .i64 0] 27)).heap.size (w3.alloc (.cells #[.int .i64 (S : Int), .slice none 0 0, .int .i64 0] 27)) (.slice b0 zs.length b2) zs) :=
    (HZ3.out.stays ((Below.refl _ w3).alloc (Nat.le_refl _) _)).mono (by simp)
  have hB4 : Below w.heap.size w (w3.alloc (.cells #[.int .i64 (S : Int), .slice none 0 0, .int .i64 0] 27)) := hB3.alloc hB3.size _
  generalize (w3.alloc (.cells #[.int .i64 (S : Int), .slice none 0 0, .int .i64 0] 27)) = w4 at *
  clear HZ3 hB3
  have cR := irun_ w4 S 0 0 zs.length (.slice none 0 0) [] [] (.slice b0 zs.length b2) zs ⟨slp_nil _ _, trivial, fun p hp => (by cases hp), fun q hq => (by cases hq), HZ4.out, HZO.out, by omega⟩
  rw [HR.out] at cR
  clear HR
  refine cR.mono ?_
  rintro e w5 ⟨v5, va, lo, rfl, hOw, hlo1, hlo2, hrow, hrb, hb5⟩
  have hOw : Own lo w5 v5 qs := hOw
  have hrow : w5.ownsRow w4.heap.size 5 1 va zs.length (u8s zs) := hrow
  obtain ⟨x0, x2, rfl⟩ := own_len hOw
  have hSa := sl_of_own hrow
  obtain ⟨a0, a2, rfl⟩ := sl_len hSa
  have HOW : Hid (Own lo w5 (.slice x0 qs.length x2) qs) := hOw
  have HSA : Hid (Sl w5.heap.size w5 (.slice a0 zs.length a2) zs) := hSa
  have HZ5 : Hid (Sl w5.heap.size w5 (.slice b0 zs.length b2) zs) := (HZ4.out.stays hb5).mono hb5.size
  have hB5 : Below w.heap.size w w5 := hB4.trans (hb5.mono hB4.size)
  clear cR hOw hlo1 hlo2 hrow hrb hb5 hSa HZ4 hB4
  go_wp2_with fail
  have r6 := heap_alloc_new w5 (.cells #[.int .i64 (S : Int), .slice x0 qs.length x2, .int .i64 f] 27)
  have hA6 : Below w5.heap.size w5 (w5.alloc (.cells #[.int .i64 (S : Int), .slice x0 qs.length x2, .int .i64 f] 27)) := (Below.refl _ w5).alloc (Nat.le_refl _) _
  have hOW6 : Own lo (w5.alloc (.cells #[.int .i64 (S : Int), .slice x0 qs.length x2, .int .i64 f] 27)) (.slice x0 qs.length x2) qs := HOW.out.block (fun k _ hk => hA6.block k hk)
  have hSA6 := (HSA.out.stays hA6).mono hA6.size
  have hZ6 := (HZ5.out.stays hA6).mono hA6.size
  have hB6 : Below w.heap.size w (w5.alloc (.cells #[.int .i64 (S : Int), .slice x0 qs.length x2, .int .i64 f] 27)) := hB5.trans (hA6.mono hB5.size)
  have hrb : w5.heap.size < (w5.alloc (.cells #[.int .i64 (S : Int), .slice x0 qs.length x2, .int .i64 f] 27)).heap.size := by simp
  clear hA6 HOW HSA HZ5 hB5
  generalize (w5.alloc (.cells #[.int .i64 (S : Int), .slice x0 qs.length x2, .int .i64 f] 27)) = w6 at *
  generalize w5.heap.size = rb at *
  obtain ⟨ps, hArg⟩ := own_arg hOW6 HOD.out (iv_wf (by omega) HIV.out (by omega)) hZ6 HZO.out (by omega)
  have HARG : Hid (Arg w6 (.slice x0 qs.length x2) ps qs (.slice b0 zs.length b2) zs) := hArg
  have hcA : ∀ m : Bw w6, (convert 22 9 (.slice a0 zs.length a2)).run Try.prog m.val = .ok (.string (strOfNums zs)) m.val := fun m => conv_sl _ _ _ _ (hSA6.stays m.ok)
  have hcB : ∀ m : Bw w6, (convert 22 9 (.slice b0 zs.length b2)).run Try.prog m.val = .ok (.string (strOfNums zs)) m.val := fun m => conv_sl _ _ _ _ (hZ6.stays m.ok)
  have hOkc : ∀ m : Bw w6, Calls Try.prog 8 #[.agg #[.int .i64 (S : Int), .slice x0 qs.length x2, .int .i64 f]] m.val fun e w' => e = .returned (.bool true) ∧ ∃ m' : Bw w6, w' = m'.val := by
    intro m
    have hA := hArg.later m.ok
    have h := iok_ m.val S f (.slice x0 qs.length x2) ps qs hA.p hA.q hA.wf
    rw [okS_iff.2 HOK.out] at h
    refine h.mono ?_
    rintro e w' ⟨rfl, hb⟩
    exact ⟨rfl, ⟨w', m.ok.trans (hb.mono m.ok.size)⟩, rfl⟩
  have z0 : ∀ m : Bw w6, m.val.cell? ⟨rb, 0, none⟩ = some (.int .i64 (S : Int)) := fun m => (m.ok.cell hrb).trans (c3_0 r6)
  have z1 : ∀ m : Bw w6, m.val.cell? ⟨rb, 1, none⟩ = some (.slice x0 qs.length x2) := fun m => (m.ok.cell hrb).trans (c3_1 r6)
  have z2 : ∀ m : Bw w6, m.val.cell? ⟨rb, 2, none⟩ = some (.int .i64 f) := fun m => (m.ok.cell hrb).trans (c3_2 r6)
  have hne : Nonempty (Bw w6) := ⟨⟨w6, Below.refl _ _⟩⟩
  have HR6 : Hid (w6.heap[rb]? = some (.cells #[.int .i64 (S : Int), .slice x0 qs.length x2, .int .i64 f] 27 (0, 0))) := r6
  have HZ6 : Hid (Sl w6.heap.size w6 (.slice b0 zs.length b2) zs) := hZ6
  clear hArg hOW6 hSA6 hZ6 r6
  generalize strOfNums zs = tx at *
  have htx : (tx.toList != tx.toList) = false := by simp
  have hq := quo_is zs.length S (by omega) hs1 hs9
  rw [← HF.out] at hq
  generalize hn : zs.length = n at *
  have HN : Hid (zs.length = n) := hn
  clear hn
  have hw1 : IntKind.i64.wrap ((n : Int) + (S : Int)) = (n : Int) + (S : Int) := wrap_small (n + S) (by omega)
  have hw2 : IntKind.i64.wrap ((n : Int) + (S : Int) - 1) = (n : Int) + (S : Int) - 1 := by
    have e : (n : Int) + (S : Int) - 1 = ((n + S - 1 : Nat) : Int) := by omega
    rw [e]; exact wrap_small _ (by omega)
  have hff : (f != f) = false := by simp
  clear HF
  refine wp_region_bw (w0 := w6) (by kernel_rfl) (by kernel_rfl) (Below.refl _ _) ?_
  repeat (go_big_quiet_step ((go_at_call 8; exact hOkc _)))
  refine wpQuiet_nil ?_
  rintro _ ⟨m, rfl⟩
  have y0 := z0 m
  have y1 := z1 m
  have y2 := z2 m
  have hb7 := m.ok
  have HB7 : Hid (Below w6.heap.size w6 m.val) := hb7
  generalize m.val = w7 at *
  have hB7 : Below w.heap.size w w7 := hB6.trans (hb7.mono hB6.size)
  have HZ7 : Hid (Sl w7.heap.size w7 (.slice b0 n b2) zs) := (HZ6.out.stays hb7).mono hb7.size
  have HA7 : Hid (Arg w7 (.slice x0 qs.length x2) ps qs (.slice b0 n b2) zs) := HARG.out.later hb7
  have hrb7 : rb < w7.heap.size := Nat.lt_of_lt_of_le hrb hb7.size
  clear z0 z1 z2 hcA hcB hOkc hne hb7 HB7 HARG HZ6 hB6 htx hq hw1 hw2 hff
  by_cases hn0 : n = 0
  · subst hn0
    have hqs : qs = [] := iv_none HIV.out
    subst hqs
    go_wp2_with fail
    go_ret
    exact ⟨rfl, hB7⟩
  · have hn0' : ¬ (n : Int) = 0 := by omega
    obtain ⟨k, hk⟩ : ∃ k, n = k + 1 := ⟨n - 1, by omega⟩
    obtain ⟨qs', hby⟩ := byte_last HOK.out (by rw [HN.out]; exact HIV.out) (by rw [HN.out]; omega : zs.length ≤ 60000) (by rw [HN.out]; omega)
    rw [HN.out, hk, Nat.add_sub_cancel] at hby
    have ek : ((k + 1 : Nat) : Int) - 1 = (k : Int) := by omega
    rw [ek] at hby
    have cB := ibyte_ w7 S f k (.slice x0 qs.length x2) ps qs (.slice b0 n b2) zs HA7.out
    rw [hby] at cB
    obtain ⟨x, hx⟩ : ∃ x, zs.getD k 0 = x := ⟨_, rfl⟩
    rw [hx] at cB
    obtain ⟨b, off, rfl, hblt, hcell⟩ : ∃ b off, b0 = some ⟨b, off, none⟩ ∧ b < w7.heap.size ∧ w7.cell? ⟨b, off + k, none⟩ = some (.int .u8 x) := by
      rcases HZ7.out with ⟨e, _⟩ | ⟨_, b, off, c, e, hlt, _, hc⟩
      · rw [e] at HN; exact absurd HN.out.symm hn0
      · injection e with e
        exact ⟨b, off, e, hlt, by rw [hc k (by rw [HN.out]; omega), hx]⟩
    have hx0 : 0 ≤ x ∧ x < 256 := by
      have hkl : k < zs.length := by rw [HN.out]; omega
      have hm : zs.getD k 0 ∈ zs := by rw [List.getD_eq_getElem?_getD, List.getElem?_eq_getElem hkl]; exact List.getElem_mem hkl
      rw [hx] at hm
      exact HZO.out x hm
    obtain ⟨hx0, hx1⟩ := hx0
    have hnk : (n : Int) - 1 = (k : Int) := by omega
    have hkn : k < n := by omega
    clear hn0 hk hby ek hx
    go_wp2_with fail
    refine cB.mono ?_
    rintro e w8 ⟨v8, rfl, hOw8, hb8⟩
    have hOw8 : Own w7.heap.size w8 v8 qs' := hOw8
    obtain ⟨t0, t2, rfl⟩ := own_len hOw8
    have u2 : w8.cell? ⟨rb, 2, none⟩ = some (.int .i64 f) := (hb8.cell hrb7).trans y2
    have u3 : w8.cell? ⟨b, off + k, none⟩ = some (.int .u8 x) := (hb8.cell hblt).trans hcell
    have hB8 : Below w.heap.size w w8 := hB7.trans (hb8.mono hB7.size)
    have hr8 : rb < w8.heap.size := Nat.lt_of_lt_of_le hrb7 hb8.size
    have hb8' : b < w8.heap.size := Nat.lt_of_lt_of_le hblt hb8.size
    have nr : w8.heap.size ≠ rb := by omega
    have nb : w8.heap.size ≠ b := by omega
    clear cB hOw8 hb8 y0 y1 y2 hcell hB7 HZ7 HA7
    go_wp2_with fail
    go_ret
    exact ⟨rfl, hB8.alloc hB8.size _⟩
end Go.Proofs.Ytopmboioojedbac
