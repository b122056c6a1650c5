/- Knots: lists of pointers that can be read; the program's web.at. -/
import Derived.Test.YtgaibajkegfpoaaGip
import Derived.Test.YtgaibajkegfpoaaGmq
import Derived.Test.YtgaibajkegfpoaaPsh
namespace Go.Proofs.Ytgaibajkegfpoaa
open Go.ChangeShapes Go.WideShapes Go.ChangeAt Go.RowKit Go.Deep
theorem infoKn : (Try.prog.info? 70).map (fun i => (i.zero, i.size, i.bytes)) = some (some (.pointer none), 1, 8) := by kernel_rfl
theorem infoKt : (Try.prog.info? 101).map (fun i => i.size) = some 4 := by kernel_rfl
def plV (l : List Nat) : List Value := l.map ptr
theorem plV_len (l : List Nat) : (plV l).length = l.length := by unfold plV; simp
theorem plV_snoc (l : List Nat) (b : Nat) : plV (l ++ [b]) = plV l ++ [ptr b] := by unfold plV; simp
/-- A list of pointers to blocks, that can be read. -/
def PlAt (w : World) (v : Value) (l : List Nat) : Prop :=
  (l = [] ∧ ∃ a c, v = .slice a 0 c) ∨ (l ≠ [] ∧ ∃ b off c, v = .slice (some ⟨b, off, none⟩) l.length c ∧ b < w.heap.size ∧ ∀ (i n : Nat), l[i]? = some n → w.cell? ⟨b, off + i, none⟩ = some (ptr n))
theorem PlAt.sl {w : World} {v : Value} {l : List Nat} (h : PlAt w v l) : ∃ a c, v = .slice a l.length c := by
  rcases h with ⟨rfl, a, c, rfl⟩ | ⟨_, b, off, c, rfl, _⟩
  · exact ⟨a, c, rfl⟩
  · exact ⟨_, c, rfl⟩
theorem PlAt.at {w : World} {a : Option Addr} {c : Nat} {l : List Nat} (h : PlAt w (.slice a l.length c) l) {k n : Nat} (hx : l[k]? = some n) : ∃ b off, a = some ⟨b, off, none⟩ ∧ b < w.heap.size ∧ w.cell? ⟨b, off + k, none⟩ = some (ptr n) := by
  rcases h with ⟨e1, _⟩ | ⟨_, b, off, _, e1, hbl, hcell⟩
  · rw [e1] at hx; simp at hx
  · injection e1 with e1
    exact ⟨b, off, e1, hbl, hcell k n hx⟩
theorem PlAt.later {w w' : World} {v : Value} {l : List Nat} (h : PlAt w v l) (hb : Below w.heap.size w w') : PlAt w' v l := by
  rcases h with h | ⟨h0, b, off, c, e, hlt, hc⟩
  · exact .inl h
  · exact .inr ⟨h0, b, off, c, e, Nat.lt_of_lt_of_le hlt hb.size, fun i n hi => by rw [hb.cell hlt]; exact hc i n hi⟩
theorem pl_of_own {w : World} {lo : Nat} {v : Value} {l : List Nat} (h : w.ownsRow lo 70 1 v l.length (plV l)) : PlAt w v l := by
  by_cases hz : l = []
  · subst hz
    left
    rcases h.2 with ⟨e, _⟩ | ⟨g, cap, cur, e, _⟩
    · exact ⟨rfl, _, _, e⟩
    · exact ⟨rfl, _, _, e⟩
  · right
    have hpos : 0 < l.length := List.length_pos_iff.2 hz
    rcases h.2 with ⟨_, e⟩ | ⟨g, cap, cur, rfl, _, hg, _⟩
    · omega
    · refine ⟨hz, g, 0, cap, rfl, (Array.getElem?_eq_some_iff.1 hg).1, fun i n hi => ?_⟩
      have hx : (plV l)[i]? = some (ptr n) := by unfold plV; rw [List.getElem?_map, hi]; rfl
      have h1 := h.cells (g := g) rfl i _ hx
      have a1 : (⟨g, 0, none⟩ : Addr).add i = ⟨g, i, none⟩ := by unfold Addr.add; split <;> simp_all
      rw [a1] at h1
      rw [Nat.zero_add]
      exact h1
/-- The blocks of nodes told by their places. -/
def blk (Ps : List Nat) (k : Int) : Nat := Ps.getD k.toNat 0
theorem blk_at {Ps : List Nat} {m : Nat} (h : m < Ps.length) : Ps[m]? = some (blk Ps (m : Int)) := by
  unfold blk
  simp [List.getD, List.getElem?_eq_getElem h]
set_option maxHeartbeats 8000000 in
set_option maxRecDepth 100000 in
theorem webAt_any (w : World) (kn rt pv : Value) (Ps : List Nat) (l : List Int) (hK : PlAt w kn Ps) (hP : IlAt w pv l) (hl : l.length ≤ 1048576) (hin : ∀ k ∈ l, 0 ≤ k ∧ k < (Ps.length : Int)) (hpl : Ps.length ≤ 1048576) :
    Calls Try.prog 63 #[.agg #[kn, rt], pv] w fun e w' => (∃ v, e = .returned v ∧ isSlG v ∧ w'.ownsRow w.heap.size 70 1 v l.length (plV (l.map (blk Ps)))) ∧ Below w.heap.size w w' := by
  obtain ⟨ka, kc, rfl⟩ := hK.sl
  obtain ⟨pa, pc, rfl⟩ := hP.sl
  have hlI : (l.length : Int) ≤ 1048576 := by omega
  have hpI : (Ps.length : Int) ≤ 1048576 := by omega
  have HIN := hidG hin
  have HLN : Hid (l.length ≤ 1048576) := hl
  obtain ⟨V, hV⟩ : ∃ V, w.alloc (.cells #[.slice ka Ps.length kc, rt] 60) = V := ⟨_, rfl⟩
  have HB0 : Hid (Below w.heap.size w V) := by show Below _ _ _; rw [← hV]; exact al_belowG w _
  have HS : Hid (V.heap.size = w.heap.size + 1) := by show _ = _; rw [← hV]; show (w.heap.push _).size = _; simp
  have HE : Hid (V.heap[w.heap.size]? = some (.cells #[.slice ka Ps.length kc, rt] 60 (0, 0))) := by show _ = _; rw [← hV]; exact heap_alloc_new w _
  have HQ : Hid (∀ wr, Below V.heap.size V wr → wr.cell? ⟨w.heap.size, 0, none⟩ = some (.slice ka Ps.length kc)) := fun wr hb => by
    have := (hb.block w.heap.size (by rw [HS.out]; exact Nat.lt_succ_self _)).trans HE.out
    simp [World.cell?, this]
  have HK : Hid (PlAt V (.slice ka Ps.length kc) Ps) := hK.later HB0.out
  have HP : Hid (IlAt V (.slice pa l.length pc) l) := hP.later HB0.out
  have HV := hidG hV
  have HO0 : Hid (V.ownsRow V.heap.size 70 1 (.slice none 0 0) 0 (plV ((l.map (blk Ps)).take 0))) := ⟨by simp [plV], .inl ⟨rfl, rfl⟩⟩
  clear hK hP hin hl hpl hV
  go_enter Try.func63, Try.ntmps63
  go_wp2_with fail
  rw [HV.out]
  go_wp2_with fail
  go_loopw [5, 10] (fun ov iv wr => ∃ (k : Nat) (oa : Option Addr) (on oc : Nat), ov = .slice oa on oc ∧ iv = .int .i64 k ∧ k ≤ l.length ∧ Hid (wr.ownsRow V.heap.size 70 1 (.slice oa on oc) k (plV ((l.map (blk Ps)).take k))) ∧ Hid (Below V.heap.size V wr)) (fun _ iv _ => l.length - (intOf iv).toNat)
  case atStart => exact ⟨0, none, 0, 0, rfl, rfl, Nat.zero_le _, HO0, Below.refl _ _⟩
  case round =>
    obtain ⟨k, oa, on, oc, rfl, rfl, hk, HO, HB⟩ := hrel
    clear HO0
    have q0 := HQ.out wr HB.out
    by_cases hlt : k < l.length
    · have hltI : (k : Int) < (l.length : Int) := by omega
      obtain ⟨x, hx⟩ : ∃ x, l[k]? = some x := ⟨_, List.getElem?_eq_getElem hlt⟩
      obtain ⟨b, o, rfl, hbl, d⟩ := HP.out.at hx
      rw [← HB.out.cell hbl] at d
      have hx0 := HIN.out x (List.mem_of_getElem? hx)
      obtain ⟨m, rfl⟩ := Int.eq_ofNat_of_zero_le hx0.1
      have hmI : (m : Int) < (Ps.length : Int) := hx0.2
      obtain ⟨b2, o2, rfl, hbl2, d2⟩ := HK.out.at (blk_at (Ps := Ps) (m := m) (by omega))
      rw [← HB.out.cell hbl2] at d2
      unfold ptr at d2
      have hHI : V.heap.size ≤ wr.heap.size := HB.out.size
      obtain ⟨v5, w5, hrun5, hsl5, hown5, hbel5, hot5, hid5⟩ := push_own2 (P := Try.prog) Try.underlying58 infoKn rfl (by decide) wr V.heap.size _ _ _ HO.out #[ptr (blk Ps (m : Int))] rfl (by intro u hu; simp at hu; subst hu; rfl) (by have := HLN.out; omega) (by omega) hHI 58
      obtain ⟨a5, n5, c5, rfl⟩ := hsl5
      have HO5 : Hid (w5.ownsRow V.heap.size 70 1 (.slice a5 n5 c5) (k + 1) (plV ((l.map (blk Ps)).take (k + 1)))) := by
        show World.ownsRow _ _ _ _ _ _ _
        have e : (l.map (blk Ps)).take (k + 1) = (l.map (blk Ps)).take k ++ [blk Ps (m : Int)] := by
          rw [List.take_add_one, List.getElem?_map, hx]
          rfl
        rw [e, plV_snoc]
        exact hown5
      have HB5 : Hid (Below V.heap.size V w5) := HB.out.trans hbel5
      unfold ptr at hrun5
      clear hown5 hbel5 hot5 hid5 HO HB hx hbl hx0 hbl2 hHI
      go_wp2_with (at_builtin; refine append_run rfl _ _ 58 rfl _ _ rfl rfl _ w5 hrun5 ?_)
      go_roundw
      case rel => exact ⟨k + 1, _, _, _, rfl, by go_num, hlt, HO5, HB5⟩
      case measure => simp [intOf]; omega
    · have hge : ¬ (k : Int) < (l.length : Int) := by omega
      have HOF : Hid (wr.ownsRow w.heap.size 70 1 (.slice oa on oc) l.length (plV (l.map (blk Ps)))) := by
        show World.ownsRow _ _ _ _ _ _ _
        have h1 := HO.out
        rw [List.take_of_length_le (by rw [List.length_map]; omega)] at h1
        rw [show l.length = k by omega]
        exact g_row_lower h1 (by have := HS.out; omega)
      have HBF : Hid (Below w.heap.size w wr) := HB0.out.trans (HB.out.mono HB0.out.size)
      clear HO HB
      go_wp2_with fail
      go_ret
      exact ⟨⟨_, rfl, ⟨_, _, _, rfl⟩, HOF.out⟩, HBF.out⟩
end Go.Proofs.Ytgaibajkegfpoaa
