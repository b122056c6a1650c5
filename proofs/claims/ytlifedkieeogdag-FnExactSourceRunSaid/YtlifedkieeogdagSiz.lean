/- How large a source is, and a copy of it in new memory. -/
import Derived.Test.YtlifedkieeogdagOpn
namespace Go.Proofs.Ytlifedkieeogdag
open Go.Maps Go.RowKit Go.Deep
theorem _root_.Go.RowKit.Below.stp {w0 w w' : World} (h : Below w0.heap.size w0 w) (h2 : Below w.heap.size w w') : Below w0.heap.size w0 w' := h.trans (h2.mono h.size)
def lens (qs : List Pg) : Prop := ∀ q ∈ qs, q.2.length ≤ 9223372036854775807
theorem less_cases (l : Int) (n : Nat) : (less l n = -1) ∨ (less l n = l - n ∧ 0 ≤ l - n) := by
  unfold less
  split
  · exact .inl rfl
  · exact .inr ⟨rfl, by omega⟩
set_option maxHeartbeats 4000000 in
theorem szPs_ (w : World) (v : Value) (qs : List Pg) (hV : Rdp w v qs) (hl : lens qs) (hq : qs.length ≤ 9223372036854775807) :
    Calls Try.prog 30 #[v, .int .i64 1048576] w fun e w' => SzPost qs 1048576 w e w' := by
  obtain ⟨a, c, rfl⟩ := hV.sl
  have HV : Hid (Rdp w (.slice a qs.length c) qs) := hV
  have HL : Hid (lens qs) := hl
  clear hV hl
  by_cases h : (1048576 : Int) < (qs.length : Int)
  · go_enter Try.func30, Try.ntmps30
    go_wp2_with fail
    go_ret
    exact ⟨⟨_, rfl, .inl rfl⟩, Below.refl _ _⟩
  · go_enter Try.func30, Try.ntmps30
    go_wp2_with fail
    go_loopw [1, 5] (fun l i wr => ∃ (k : Nat) (m : Int), k ≤ qs.length ∧ i = .int .i64 k ∧ l = .int .i64 m ∧ 0 ≤ m ∧ m + (tot (qs.take k) : Int) + ((qs.length - k : Nat) : Int) = 1048576 ∧ Below w.heap.size w wr) (fun _ i _ => qs.length - (intOf i).toNat)
    case atStart => exact ⟨0, 1048576 - qs.length, Nat.zero_le _, rfl, by go_num, by omega, by simp [tot], Below.refl _ _⟩
    case round =>
      obtain ⟨k, m, hk, rfl, rfl, hm0, hsum, hb⟩ := hrel
      by_cases hlt : k < qs.length
      · obtain ⟨ps, hP, hQ⟩ := HV.out
        obtain ⟨⟨qx, zs⟩, hq⟩ : ∃ q, qs[k]? = some q := ⟨_, List.getElem?_eq_getElem hlt⟩
        obtain ⟨⟨x, pd⟩, hp⟩ : ∃ p, ps[k]? = some p := ⟨_, List.getElem?_eq_getElem (by rw [hQ.len]; exact hlt)⟩
        obtain ⟨ex, hsl⟩ := PQ.nth hQ hp hq
        obtain rfl : x = qx := ex
        obtain ⟨da, dc, rfl⟩ := sl_len hsl
        have hne : ps ≠ [] := fun e => by rw [e] at hp; simp at hp
        obtain ⟨b, off, rfl, c1, c2⟩ : ∃ b off, a = some ⟨b, off, none⟩ ∧ wr.cell? ⟨b, off + k * 2, none⟩ = some (.int .i64 x) ∧ wr.cell? ⟨b, off + k * 2 + 1, none⟩ = some (.slice da zs.length dc) := by
          rcases hP with ⟨e, _⟩ | ⟨_, b, off, _, e, hbl, _, hcell⟩
          · exact absurd e hne
          · injection e with e
            exact ⟨b, off, e, by rw [hb.cell hbl]; exact (hcell k _ hp).1, by rw [hb.cell hbl]; exact (hcell k _ hp).2⟩
        have hts := tot_take_succ hq
        have hzl := HL.out _ (List.mem_of_getElem? hq)
        have hE := szP_ wr x da zs.length dc m hm0 (by omega) hzl
        have hlt' : (k : Int) < (qs.length : Int) := by omega
        have hlc := less_cases m zs.length
        have HTS : Hid (tot (qs.take (k + 1)) = tot (qs.take k) + (zs.length + 1)) := hts
        have HSUM : Hid (m + (tot (qs.take k) : Int) + ((qs.length - k : Nat) : Int) = 1048576) := hsum
        clear hP hQ hp hq hsl hne hts hzl hsum
        go_wp2_with fail
        refine hE.mono ?_
        rintro e w1 ⟨rfl, hb1⟩
        have hB1 := Below.stp hb hb1
        clear hE hb1
        generalize less m zs.length = m' at *
        rcases hlc with rfl | ⟨e, hge⟩
        · go_wp2_with fail
          go_ret
          exact ⟨⟨_, rfl, .inl rfl⟩, hB1⟩
        · have hm' : ¬ m' < 0 := by omega
          have HE : Hid (m' = m - (zs.length : Int)) := e
          clear e
          go_wp2_with fail
          go_roundw
          case rel =>
            refine ⟨k + 1, m', hlt, by go_num, rfl, by omega, ?_, hB1⟩
            have h1 := HTS.out
            have h2 := HSUM.out
            have h3 := HE.out
            omega
          case measure => simp [intOf]; omega
      · go_wp2_with fail
        go_ret
        have ek : k = qs.length := by omega
        refine ⟨⟨m, rfl, .inr ⟨hm0, ?_⟩⟩, hb⟩
        rw [ek, List.take_length] at hsum
        omega
set_option maxHeartbeats 1000000 in
theorem szS_ (w : World) (size f : Int) (v : Value) (qs : List Pg) (hV : Rdp w v qs) (hl : lens qs) (hq : qs.length ≤ 9223372036854775807) :
    Calls Try.prog 9 #[.agg #[.int .i64 size, v, .int .i64 f], .int .i64 1048576] w fun e w' => SzPost qs 1048576 w e w' := by
  have hB : Below w.heap.size w (w.alloc (.cells #[.int .i64 size, v, .int .i64 f] 24)) := (Below.refl _ w).alloc (Nat.le_refl _) _
  have hE := szPs_ _ v qs (hV.later hB) hl hq
  obtain ⟨va, vc, rfl⟩ := hV.sl
  have HB : Hid _ := hB
  clear hV hB
  go_enter Try.func9, Try.ntmps9
  go_wp2_with fail
  refine hE.mono ?_
  rintro e w1 ⟨⟨r, rfl, hr⟩, hb1⟩
  have hB1 := Below.stp HB.out hb1
  clear hb1 hE
  rcases hr with rfl | ⟨h0, hr⟩
  · go_wp2_with fail
    go_ret
    exact ⟨⟨_, rfl, .inl rfl⟩, hB1⟩
  · have h0' : ¬ r < 0 := by omega
    go_wp2_with fail
    go_ret
    exact ⟨⟨_, rfl, .inr ⟨h0, hr⟩⟩, hB1⟩
theorem own_of_row {w : World} {g t n : Nat} {f : Nat → Value} {size m : Nat} {xs : List Value} (h : w.rowIs g t (m * size) f) (hn : n = m) (hx : xs.length = m * size) (hf : ∀ i, i < m * size → xs[i]? = some (f i)) (hm : m ≤ maxLen) {lo : Nat} (hlo : lo ≤ g) :
    w.ownsRow lo t size (.slice (some ⟨g, 0, none⟩) n n) m xs := by
  subst hn
  obtain ⟨c, hb, hs, hc⟩ := h
  refine ⟨hx, .inr ⟨g, n, c, rfl, hlo, hb, Nat.le_refl _, hm, hs, ?_⟩⟩
  apply List.ext_getElem?
  intro i
  rw [List.getElem?_take]
  by_cases hi : i < n * size
  · rw [if_pos hi, Array.getElem?_toList, hc i hi, hf i hi]
  · rw [if_neg hi, List.getElem?_eq_none (by omega)]
set_option maxHeartbeats 1000000 in
theorem toB_ (v : Value) (zs : List Int) (w : World) (B : Nat) (hS : Sl B w v zs) (hz : zs.length ≤ 1048576) :
    Calls Try.prog 19 #[v] w fun e w' => (∃ c, e = .returned (.slice (some ⟨w.heap.size, 0, none⟩) zs.length c) ∧ w'.ownsRow w.heap.size 5 1 (.slice (some ⟨w.heap.size, 0, none⟩) zs.length c) zs.length (u8s zs)) ∧ Below w.heap.size w w' := by
  rcases hS with ⟨rfl, a, c, rfl⟩ | ⟨hne, b, off, c, rfl, hlt, hlc, hc⟩
  · have hmk : ∀ w : World, (Instr.makeSlice 37 (.int .i64 0) (.int .i64 0)).run Try.prog w = .ok (.slice (some ⟨w.heap.size, 0, none⟩) 0 0) (w.alloc (.cells (madeCells #[.int .u8 0] 0) 5)) := fun w => run_make_row' (P := Try.prog) 37 5 (.int .u8 0) 1 Try.underlying37 info5 rfl .i64 .i64 0 (by omega) (by omega) w
    go_enter Try.func19, Try.ntmps19
    go_wp2_with fail
    refine wp_loop_rounds 1 ?_
    rw [rounds_succ]
    go_wp2_with fail
    go_ret
    exact ⟨⟨_, rfl, World.ownsRow_made w _ 0 (Nat.le_refl _) (Nat.zero_le _) (size_madeCells _ _)⟩, (Below.refl _ _).alloc (Nat.le_refl _) _⟩
  · have hmk := fun w => run_make_row' (P := Try.prog) 37 5 (.int .u8 0) 1 Try.underlying37 info5 rfl .i64 .i64 zs.length (by omega) (by omega) w
    have HC : Hid (∀ i, i < zs.length → w.cell? ⟨b, off + i, none⟩ = some (.int .u8 (zs.getD i 0))) := hc
    clear hc
    go_enter Try.func19, Try.ntmps19
    go_wp2_with fail
    go_loopw [4] (fun i wr => ∃ k : Nat, k ≤ zs.length ∧ i = .int .i64 k ∧ wr.rowIs w.heap.size 5 zs.length (fun j => if j < k then .int .u8 (zs.getD j 0) else .int .u8 0) ∧ Below w.heap.size w wr) (fun i _ => zs.length - (intOf i).toNat)
    case atStart => exact ⟨0, Nat.zero_le _, rfl, (World.rowIs_made w _ _ _).congr (fun i hi => by simp), (Below.refl _ _).alloc (Nat.le_refl _) _⟩
    case round =>
      obtain ⟨k, hk, rfl, hrow, hb⟩ := hrel
      have HR : Hid (wr.rowIs w.heap.size 5 zs.length (fun j => if j < k then .int .u8 (zs.getD j 0) else .int .u8 0)) := hrow
      clear hrow
      by_cases hlt : k < zs.length
      · have hcs : wr.cell? ⟨b, off + k, none⟩ = some (.int .u8 (zs.getD k 0)) := by
          rw [hb.cell (World.block_lt_of_cell? w _ (HC.out k hlt))]; exact HC.out k hlt
        have hcd : wr.cell? ⟨w.heap.size, k, none⟩ = some (.int .u8 0) := by
          rw [HR.out.cell hlt]; simp
        have hfd : wr.frozen? ⟨w.heap.size, k, none⟩ = false := HR.out.frozen k
        obtain ⟨z, hzk⟩ : ∃ z, zs.getD k 0 = z := ⟨_, rfl⟩
        rw [hzk] at hcs
        have HZ : Hid (zs.getD k 0 = z) := hzk
        clear hzk
        go_wp2_with fail
        go_roundw
        case rel =>
          refine ⟨k + 1, hlt, by go_num, (HR.out.set k _).congr (fun i hi => ?_), hb.setCell (Nat.le_refl _) _⟩
          by_cases e : i = k
          · rw [if_pos e, e, if_pos (by omega), HZ.out]
          · rw [if_neg e]
            by_cases e2 : i < k
            · rw [if_pos e2, if_pos (by omega)]
            · rw [if_neg e2, if_neg (by omega)]
        case measure => simp [intOf]; omega
      · go_wp2_with fail
        go_ret
        have e : k = zs.length := by omega
        refine ⟨⟨_, rfl, own_of_row (m := zs.length) (by simpa using HR.out) rfl (by simp [u8s]) (fun i hi => ?_) (by unfold maxLen; omega) (Nat.le_refl _)⟩, hb⟩
        have hi' : i < zs.length := by omega
        rw [e, if_pos hi']
        unfold u8s
        simp [hi']
end Go.Proofs.Ytlifedkieeogdag
