/- The program's webOf. -/
import Derived.Test.YtgaibajkegfpoaaDoorZqg
import Derived.Deep.RegionHeld3
namespace Go.Proofs.YtgaibajkegfpoaaDoor
open Go.ChangeShapes Go.WideShapes Go.ChangeAt Go.RowKit Go.Deep
set_option maxHeartbeats 8000000 in
set_option maxRecDepth 100000 in
theorem webOf_any (g : Gr) (nv rv : Value) (w : World) (hG : GrAt w nv rv g) (ht : g.tot ≤ 1048576) (hp : partsP g = true) :
    Calls Tryd.prog 21 #[.agg #[nv, rv]] w fun e w' => (∃ Ps kn rt, e = .returned (.agg #[kn, rt]) ∧ isSlG kn ∧ isSlG rt ∧ WebAt w' g Ps kn rt) ∧ Below w.heap.size w w' := by
  have htt : g.nodes.length + totN g.nodes + g.roots.length ≤ 1048576 := ht
  obtain ⟨hN, hKI, hRI⟩ := parts_kids hp
  have HK : Hid (∀ n ∈ g.nodes, n.kids.length ≤ 1048576 ∧ n.tag.size ≤ 1048576) := fun n hn => by
    have := totN_mem hn
    unfold Nd.tot at this
    omega
  have HM : Hid (g.nodes.length ≤ 3000) := hN
  have HKI := hidG hKI
  have HRI := hidG hRI
  obtain ⟨na, nc, rfl⟩ := hG.1.sl
  obtain ⟨ra, rc, rfl⟩ := hG.2.sl
  have hnl : (g.nodes.length : Int) ≤ 1048576 := by omega
  have hrl : (g.roots.length : Int) ≤ 1048576 := by omega
  have HRL : Hid (g.roots.length ≤ 1048576) := by show _ ≤ _; omega
  obtain ⟨V, hV⟩ : ∃ V, ((w.alloc (.cells #[.slice na g.nodes.length nc, .slice ra g.roots.length rc] 31)).alloc (.cells #[.slice none 0 0, .slice none 0 0] 50)).alloc (.cells #[.slice none 0 0, .slice none 0 0] 50) = V := ⟨_, rfl⟩
  have HB0 : Hid (Below w.heap.size w V) := by show Below _ _ _; rw [← hV]; exact (((Below.refl _ w).alloc (Nat.le_refl _) _).alloc (by simp) _).alloc (by simp; omega) _
  have HS : Hid (V.heap.size = w.heap.size + 3) := by show _ = _; rw [← hV]; show (((w.heap.push _).push _).push _).size = _; simp
  have HE : Hid (V.heap[w.heap.size]? = some (.cells #[.slice na g.nodes.length nc, .slice ra g.roots.length rc] 31 (0, 0))) := by
    show _ = _
    rw [← hV]
    show (((w.heap.push _).push _).push _)[w.heap.size]? = _
    rw [Array.getElem?_push, if_neg (by simp; omega), Array.getElem?_push, if_neg (by simp), Array.getElem?_push, if_pos rfl]
  have H1 : Hid (V.heap[w.heap.size + 1]? = some (.cells #[.slice none 0 0, .slice none 0 0] 50 (0, 0))) := by
    show _ = _
    rw [← hV]
    show (((w.heap.push _).push _).push _)[w.heap.size + 1]? = _
    rw [Array.getElem?_push, if_neg (by simp), Array.getElem?_push, if_pos (by simp)]
  have H2 : Hid (V.heap[w.heap.size + 2]? = some (.cells #[.slice none 0 0, .slice none 0 0] 50 (0, 0))) := by
    show _ = _
    rw [← hV]
    show (((w.heap.push _).push _).push _)[w.heap.size + 2]? = _
    rw [Array.getElem?_push, if_pos (by simp)]
  -- all that lies below lo stays
  obtain ⟨lo, hlo⟩ : ∃ lo, V.heap.size = lo := ⟨_, rfl⟩
  have HLO := hidG hlo
  have HN : Hid (NlAt w (.slice na g.nodes.length nc) g.nodes) := hG.1
  have HR : Hid (IlAt w (.slice ra g.roots.length rc) g.roots) := hG.2
  have HW0 : Hid (WbM lo (w.heap.size + 2) g 0 0 [] V) := ⟨⟨none, 0, 0, H2.out, ⟨rfl, .inl ⟨rfl, rfl⟩⟩⟩, rfl, List.nodup_nil, fun b h => (by cases h), fun i n hi _ => absurd hi (Nat.not_lt_zero _)⟩
  have HV := hidG hV
  have HXL : Hid (w.heap.size + 2 < lo) := by show _ < _; have := HS.out; omega
  clear hG ht htt hp hN hKI hRI hV hlo
  go_enter Tryd.func21, Tryd.ntmps21
  go_wp2_with fail
  rw [HV.out]
  have g0 := n2_0 HE.out
  go_wp2_with fail
  clear g0
  go_loopw [11] (fun iv wr => ∃ (k : Nat) (Ps : List Nat), iv = .int .i64 k ∧ k ≤ g.nodes.length ∧ Hid (WbM lo (w.heap.size + 2) g k 0 Ps wr) ∧ Hid (Below w.heap.size w wr) ∧ Hid (lo ≤ wr.heap.size) ∧ Hid (wr.heap[w.heap.size]? = some (.cells #[.slice na g.nodes.length nc, .slice ra g.roots.length rc] 31 (0, 0))) ∧ Hid (wr.heap[w.heap.size + 1]? = some (.cells #[.slice none 0 0, .slice none 0 0] 50 (0, 0)))) (fun iv _ => g.nodes.length - (intOf iv).toNat)
  case atStart => exact ⟨0, [], rfl, Nat.zero_le _, HW0, HB0, by show _ ≤ _; rw [HLO.out]; exact Nat.le_refl _, HE, H1⟩
  case round =>
    obtain ⟨k, Ps, rfl, hk, HW, HB, HLR, HE1, HR1⟩ := hrel
    clear HW0
    have g0 := n2_0 HE1.out
    by_cases hlt : k < g.nodes.length
    · have hltI : (k : Int) < (g.nodes.length : Int) := by omega
      obtain ⟨n, hx⟩ : ∃ n, g.nodes[k]? = some n := ⟨_, List.getElem?_eq_getElem hlt⟩
      have HX : Hid (g.nodes[k]? = some n) := hx
      obtain ⟨kind, tag, text, kids⟩ := n
      obtain ⟨b, off, kv, rfl, hbl, hN0⟩ := HN.out.at hx
      obtain ⟨xa, xc, rfl⟩ := hN0.kids.sl
      obtain ⟨c0, c1, c2, c3, -⟩ := hN0.later hbl HB.out
      replace c0 : wr.cell? ⟨b, off + k * 4, none⟩ = some (.int .i64 kind) := c0
      replace c1 : wr.cell? ⟨b, off + k * 4 + 1, none⟩ = some (.string tag) := c1
      replace c2 : wr.cell? ⟨b, off + k * 4 + 2, none⟩ = some (.string text) := c2
      replace c3 : wr.cell? ⟨b, off + k * 4 + 3, none⟩ = some (.slice xa kids.length xc) := c3
      obtain ⟨ka, kn, kc, hwx, hrow⟩ := HW.out.web
      have hkn : kn = k := by
        rcases hrow.2 with ⟨e1, e2⟩ | ⟨_, cap, cur, e1, _⟩
        · injection e1 with _ e1 _; omega
        · injection e1 with _ e1 _
      subst hkn
      have x0 := n2_0 hwx
      have xf := n2_f hwx 0
      have hXw : w.heap.size + 2 < wr.heap.size := by have h1 := HXL.out; have h2 := HLR.out; omega
      have hloW : lo ≤ wr.heap.size := HLR.out
      have hBW : Below wr.heap.size wr (wr.alloc (.cells #[.int .i64 kind, .string tag, .string text, .slice xa kids.length xc] 67)) := al_belowG wr _
      obtain ⟨v5, w5, hrun5, hsl5, hown5, hbel5, hot5, hid5⟩ := push_own2 (P := Tryd.prog) Tryd.underlying48 infoKn rfl (by decide) ((wr.alloc (.cells #[.int .i64 kind, .string tag, .string text, .slice xa kids.length xc] 67)).alloc (.cells (knV ⟨kind, tag, text, kids⟩ (.slice none 0 0)) 80)) lo _ _ _ ((hrow.alloc _).alloc _) #[ptr (wr.heap.size + 1)] rfl (by intro u hu; simp at hu; subst hu; rfl) (by have := HM.out; omega) (by omega) (by simp; omega) 48
      obtain ⟨a5, n5, c5, rfl⟩ := hsl5
      have hs1 : (wr.alloc (.cells #[.int .i64 kind, .string tag, .string text, .slice xa kids.length xc] 67)).heap.size = wr.heap.size + 1 := by simp
      have hs2 : ((wr.alloc (.cells #[.int .i64 kind, .string tag, .string text, .slice xa kids.length xc] 67)).alloc (.cells (knV ⟨kind, tag, text, kids⟩ (.slice none 0 0)) 80)).heap.size = wr.heap.size + 1 + 1 := by simp
      have hxx : w5.heap[w.heap.size + 2]? = wr.heap[w.heap.size + 2]? := by
        rw [hot5 _ (by rw [hs2]; omega) (row_apart hrow hwx (by decide)), Below.heap_alloc _ _ _ (by rw [hs1]; omega), Below.heap_alloc _ _ _ hXw]
      have HW5 : Hid (WbM lo (w.heap.size + 2) g (kn + 1) 0 (Ps ++ [wr.heap.size + 1]) (w5.setCell ⟨w.heap.size + 2, 0, none⟩ (.slice a5 n5 c5))) := by
        have := HW.out.push HXL.out HX.out (W := wr.alloc (.cells #[.int .i64 kind, .string tag, .string text, .slice xa kids.length xc] 67)) (w5 := w5) hBW hwx hrow hloW (a5 := a5) (n5 := n5) (c5 := c5) (by rw [hs1]; exact hown5) hot5 (by rw [hs1]; have := hbel5.size; rw [hs2] at this; omega)
        rw [hs1] at this
        exact this
      have HB5 : Hid (Below w.heap.size w (w5.setCell ⟨w.heap.size + 2, 0, none⟩ (.slice a5 n5 c5))) := by
        have hl0 : w.heap.size ≤ lo := by have := HXL.out; omega
        have h1 : Below w.heap.size w ((wr.alloc (.cells #[.int .i64 kind, .string tag, .string text, .slice xa kids.length xc] 67)).alloc (.cells (knV ⟨kind, tag, text, kids⟩ (.slice none 0 0)) 80)) := (HB.out.alloc HB.out.size _).alloc (by rw [hs1]; have := HB.out.size; omega) _
        exact (h1.trans (hbel5.mono hl0)).setCell (by show w.heap.size ≤ w.heap.size + 2; omega) _
      have keep : ∀ x, x < lo → x ≠ w.heap.size + 2 → (w5.setCell ⟨w.heap.size + 2, 0, none⟩ (.slice a5 n5 c5)).heap[x]? = wr.heap[x]? := fun x h1 h2 => by
        rw [heap_setCell_other _ _ _ _ h2, hbel5.block x h1, Below.heap_alloc _ _ _ (by rw [hs1]; omega), Below.heap_alloc _ _ _ (by omega)]
      have hl0 : w.heap.size + 2 < lo := HXL.out
      have HE5 : Hid ((w5.setCell ⟨w.heap.size + 2, 0, none⟩ (.slice a5 n5 c5)).heap[w.heap.size]? = some (.cells #[.slice (some ⟨b, off, none⟩) g.nodes.length nc, .slice ra g.roots.length rc] 31 (0, 0))) := (keep _ (by omega) (by omega)).trans HE1.out
      have HR5 : Hid ((w5.setCell ⟨w.heap.size + 2, 0, none⟩ (.slice a5 n5 c5)).heap[w.heap.size + 1]? = some (.cells #[.slice none 0 0, .slice none 0 0] 50 (0, 0))) := (keep _ (by omega) (by omega)).trans HR1.out
      have HL5 : Hid (lo ≤ (w5.setCell ⟨w.heap.size + 2, 0, none⟩ (.slice a5 n5 c5)).heap.size) := by
        have h1 := hbel5.size
        rw [hs2] at h1
        show lo ≤ (w5.setCell _ _).heap.size
        simp
        omega
      have y0 : w5.cell? ⟨w.heap.size + 2, 0, none⟩ = some (.slice ka kn kc) := by rw [World.cell?_of_block hxx]; exact x0
      have yf : w5.frozen? ⟨w.heap.size + 2, 0, none⟩ = false := by rw [World.frozen?_of_block hxx]; exact xf
      rw [hs2] at hrun5
      unfold knV ptr at hrun5
      simp only [] at hrun5
      clear hx hN0 hbl hwx hrow hBW hown5 hbel5 hot5 hid5 hs1 hs2 hxx keep HW HB HLR HE1 HR1 hloW hl0
      go_wp2_with (at_builtin; refine append_run rfl _ _ 48 rfl _ _ rfl rfl _ w5 hrun5 ?_)
      go_roundw
      case rel => exact ⟨kn + 1, _, by go_num, hlt, HW5, HB5, HL5, HE5, HR5⟩
      case measure => simp [intOf]; omega
    · have hge : ¬ (k : Int) < (g.nodes.length : Int) := by omega
      obtain rfl : k = g.nodes.length := by omega
      clear hlt hk
      go_wp2_with fail
      clear g0
      go_loopw [32] (fun iv wr => ∃ k : Nat, iv = .int .i64 k ∧ k ≤ g.nodes.length ∧ Hid (WbM lo (w.heap.size + 2) g g.nodes.length k Ps wr) ∧ Hid (Below w.heap.size w wr) ∧ Hid (lo ≤ wr.heap.size) ∧ Hid (wr.heap[w.heap.size]? = some (.cells #[.slice na g.nodes.length nc, .slice ra g.roots.length rc] 31 (0, 0))) ∧ Hid (wr.heap[w.heap.size + 1]? = some (.cells #[.slice none 0 0, .slice none 0 0] 50 (0, 0)))) (fun iv _ => g.nodes.length - (intOf iv).toNat)
      case atStart => exact ⟨0, rfl, Nat.zero_le _, HW, HB, HLR, HE1, HR1⟩
      case round =>
        clear HW HB HLR HE1 HR1
        obtain ⟨k, rfl, hk, HW, HB, HLR, HE1, HR1⟩ := hrel
        have g0 := n2_0 HE1.out
        by_cases hlt : k < g.nodes.length
        · have hltI : (k : Int) < (g.nodes.length : Int) := by omega
          obtain ⟨n, hx⟩ : ∃ n, g.nodes[k]? = some n := ⟨_, List.getElem?_eq_getElem hlt⟩
          have HX : Hid (g.nodes[k]? = some n) := hx
          have hkin := HKI.out k
          rw [kids_at hx] at hkin
          have hkl := (HK.out n (List.mem_of_getElem? hx)).1
          obtain ⟨kind, tag, text, kids⟩ := n
          obtain ⟨b, off, kv, rfl, hbl, hN0⟩ := HN.out.at hx
          obtain ⟨xa, xc, rfl⟩ := hN0.kids.sl
          obtain ⟨c0, c1, c2, c3, hIk⟩ := hN0.later hbl HB.out
          replace c0 : wr.cell? ⟨b, off + k * 4, none⟩ = some (.int .i64 kind) := c0
          replace c1 : wr.cell? ⟨b, off + k * 4 + 1, none⟩ = some (.string tag) := c1
          replace c2 : wr.cell? ⟨b, off + k * 4 + 2, none⟩ = some (.string text) := c2
          replace c3 : wr.cell? ⟨b, off + k * 4 + 3, none⟩ = some (.slice xa kids.length xc) := c3
          replace hIk : IlAt wr (.slice xa kids.length xc) kids := hIk
          replace hkin : ∀ x ∈ kids, 0 ≤ x ∧ x < (g.nodes.length : Int) := hkin
          replace hkl : kids.length ≤ 1048576 := hkl
          obtain ⟨Z, hZ⟩ : ∃ Z, wr.alloc (.cells #[.int .i64 kind, .string tag, .string text, .slice xa kids.length xc] 67) = Z := ⟨_, rfl⟩
          have hBZ : Below wr.heap.size wr Z := by rw [← hZ]; exact al_belowG wr _
          have hZE : Z.heap[wr.heap.size]? = some (.cells #[.int .i64 kind, .string tag, .string text, .slice xa kids.length xc] 67 (0, 0)) := by rw [← hZ]; exact heap_alloc_new wr _
          have HZS : Hid (Z.heap.size = wr.heap.size + 1) := by show _ = _; rw [← hZ]; show (wr.heap.push _).size = _; simp
          have HWZ : Hid (WbM lo (w.heap.size + 2) g g.nodes.length k Ps Z) := HW.out.stays hBZ
          have HBZ : Hid (Below w.heap.size w Z) := HB.out.trans (hBZ.mono HB.out.size)
          have HEZ : Hid (Z.heap[w.heap.size]? = some (.cells #[.slice (some ⟨b, off, none⟩) g.nodes.length nc, .slice ra g.roots.length rc] 31 (0, 0))) := (hBZ.block _ (by have := HB.out.size; have := HXL.out; have := HLR.out; omega)).trans HE1.out
          have HRZ : Hid (Z.heap[w.heap.size + 1]? = some (.cells #[.slice none 0 0, .slice none 0 0] 50 (0, 0))) := (hBZ.block _ (by have := HXL.out; have := HLR.out; omega)).trans HR1.out
          have HLZ : Hid (lo ≤ Z.heap.size) := by have := hBZ.size; have := HLR.out; show _ ≤ _; omega
          have HNZ : Hid (Z.heap[wr.heap.size]? = some (.cells #[.int .i64 kind, .string tag, .string text, .slice xa kids.length xc] 67 (0, 0))) := hZE
          obtain ⟨ka, kn, kc, hwx, hrow⟩ := HWZ.out.web
          obtain ⟨kb, rfl, hkn⟩ : ∃ kb, ka = some ⟨kb, 0, none⟩ ∧ kn = g.nodes.length := by
            rcases hrow.2 with ⟨_, e2⟩ | ⟨gb, cap, cur, e1, _⟩
            · omega
            · injection e1 with e1 e2 _
              exact ⟨gb, e1, e2⟩
          subst hkn
          have hPl : PlAt Z (.slice (some ⟨kb, 0, none⟩) g.nodes.length kc) Ps := pl_of_own (by rw [HWZ.out.len]; exact hrow)
          have hlp : Ps.length = g.nodes.length := HWZ.out.len
          have HC : Hid (∀ x, Below Z.heap.size Z x → Calls Tryd.prog 38 #[.agg #[.slice (some ⟨kb, 0, none⟩) g.nodes.length kc, .slice none 0 0], .slice xa kids.length xc] x fun e w' => (∃ v, e = .returned v ∧ isSlG v ∧ w'.ownsRow x.heap.size 78 1 v kids.length (plV (kids.map (blk Ps)))) ∧ Below x.heap.size x w') := fun x hb => webAt_any x _ _ _ Ps kids (hPl.later hb) ((hIk.later hBZ).later hb) hkl (by rw [hlp]; exact hkin) (by rw [hlp]; have := HM.out; omega)
          obtain ⟨bk, hbk⟩ : ∃ bk, blk Ps (k : Int) = bk := ⟨_, rfl⟩
          obtain ⟨kv0, hkb, _, hkv0⟩ := HWZ.out.knot k _ hlt hx
          obtain rfl := hkv0 (Nat.lt_irrefl _)
          rw [hbk] at hkb
          have HQ : Hid (∀ x, Below Z.heap.size Z x → x.cell? ⟨w.heap.size + 2, 0, none⟩ = some (.slice (some ⟨kb, 0, none⟩) g.nodes.length kc) ∧ x.cell? ⟨w.heap.size + 2, 1, none⟩ = some (.slice none 0 0) ∧ x.cell? ⟨kb, k, none⟩ = some (.pointer (some ⟨bk, 0, none⟩)) ∧ x.cell? ⟨wr.heap.size, 3, none⟩ = some (.slice xa kids.length xc) ∧ x.cell? ⟨bk, 3, none⟩ = some (.slice none 0 0) ∧ x.frozen? ⟨bk, 3, none⟩ = false) := fun x hb => by
            have e1 := (hb.block _ (Array.getElem?_eq_some_iff.1 hwx).1).trans hwx
            have e2 := (hb.block _ (Array.getElem?_eq_some_iff.1 hZE).1).trans hZE
            have e3 := (hb.block _ (Array.getElem?_eq_some_iff.1 hkb).1).trans hkb
            have hPx := hPl.later hb
            rw [← hlp] at hPx
            obtain ⟨b2, o2, h1, _, h2⟩ := hPx.at (blk_at (Ps := Ps) (m := k) (by omega))
            injection h1 with h1
            injection h1 with h1 h3 _
            subst h1
            subst h3
            rw [Nat.zero_add, hbk] at h2
            refine ⟨n2_0 e1, n2_1 e1, h2, ?_, ?_, ?_⟩
            · simp [World.cell?, e2]
            · simp [World.cell?, e3, knV]
            · simp [World.frozen?, e3]
          have HBK : Hid (blk Ps (k : Int) = bk) := hbk
          have HNE : Hid (bk ≠ w.heap.size + 2 ∧ bk ≠ kb ∧ bk ≠ wr.heap.size) := by
            have h1 := HWZ.out.rng _ (blk_mem (Ps := Ps) (i := k) (by omega))
            have h2 := HW.out.rng _ (blk_mem (Ps := Ps) (i := k) (by rw [HW.out.len]; exact hlt))
            rw [hbk] at h1 h2
            have h3 := HXL.out
            refine ⟨by omega, fun e => row_apart hrow hkb (by decide) (by rw [e]; rfl), by omega⟩
          have HZ := hidG hZ
          clear hx hkin hkl hbl hN0 hIk hZ hBZ hZE hwx hrow hPl hlp hbk hkb hkv0 HW HB HLR HE1 HR1
          go_wp2_with fail
          rw [HZ.out]
          obtain ⟨q0, q1, q2, q3, q4, q5⟩ := HQ.out Z (Below.refl _ _)
          clear c0 c1 c2 c3 g0
          have n1 : bk ≠ w.heap.size + 2 := HNE.out.1
          have n2 : bk ≠ kb := HNE.out.2.1
          have n3 : bk ≠ wr.heap.size := HNE.out.2.2
          go_region_held3 (fun x => x.cell? ⟨w.heap.size + 2, 0, none⟩ = some (.slice (some ⟨kb, 0, none⟩) g.nodes.length kc) ∧ x.cell? ⟨w.heap.size + 2, 1, none⟩ = some (.slice none 0 0) ∧ x.cell? ⟨kb, k, none⟩ = some (.pointer (some ⟨bk, 0, none⟩)) ∧ x.cell? ⟨wr.heap.size, 3, none⟩ = some (.slice xa kids.length xc))
            (first | exact ⟨q0, q1, q2, q3⟩ | exact ⟨r0, r1, r2, r3⟩ | go_keep)
            ((go_at_call 38; refine (HC.out _ ((Below.refl _ Z).drew)).mono ?_; rintro e w1 ⟨⟨v, rfl, ⟨va, vn, vc, rfl⟩, hr⟩, hb⟩; obtain ⟨r0, r1, r2, r3, r4, r5⟩ := HQ.out w1 (((Below.refl _ Z).drew).trans hb)))
          have HB1 : Hid (Below Z.heap.size Z w1) := ((Below.refl _ Z).drew).trans hb
          have hr1 : w1.ownsRow lo 78 1 (.slice va vn vc) kids.length (plV (kids.map (blk Ps))) := g_row_lower hr (by show lo ≤ Z.heap.size; exact HLZ.out)
          have HWK : Hid (WbM lo (w.heap.size + 2) g g.nodes.length (k + 1) Ps (w1.setCell ⟨bk, 3, none⟩ (.slice va vn vc))) := by
            have := (HWZ.out.stays HB1.out).kid HXL.out hlt HX.out hr1
            rw [HBK.out] at this
            exact this
          have HRG : Hid (lo ≤ bk) := by
            have := (HWZ.out.rng _ (blk_mem (Ps := Ps) (i := k) (by rw [HWZ.out.len]; exact hlt))).1
            rw [HBK.out] at this
            exact this
          have hset : ∀ x, x < lo → (w1.setCell ⟨bk, 3, none⟩ (.slice va vn vc)).heap[x]? = Z.heap[x]? := fun x hx => by
            rw [heap_setCell_other _ _ _ _ (by have := HRG.out; show x ≠ bk; omega)]
            exact HB1.out.block x (by have := HLZ.out; omega)
          have HBK2 : Hid (Below w.heap.size w (w1.setCell ⟨bk, 3, none⟩ (.slice va vn vc))) := (HBZ.out.trans (HB1.out.mono HBZ.out.size)).setCell (by show w.heap.size ≤ bk; have := HRG.out; have := HXL.out; omega) _
          have HLK : Hid (lo ≤ (w1.setCell ⟨bk, 3, none⟩ (.slice va vn vc)).heap.size) := by
            have := HB1.out.size
            have := HLZ.out
            show lo ≤ (w1.setCell _ _).heap.size
            simp
            omega
          have HEK : Hid ((w1.setCell ⟨bk, 3, none⟩ (.slice va vn vc)).heap[w.heap.size]? = some (.cells #[.slice (some ⟨b, off, none⟩) g.nodes.length nc, .slice ra g.roots.length rc] 31 (0, 0))) := (hset _ (by have := HXL.out; omega)).trans HEZ.out
          have HRK : Hid ((w1.setCell ⟨bk, 3, none⟩ (.slice va vn vc)).heap[w.heap.size + 1]? = some (.cells #[.slice none 0 0, .slice none 0 0] 50 (0, 0))) := (hset _ (by have := HXL.out; omega)).trans HRZ.out
          clear hr hb hr1 hset r0 r1 r2 r3 r4 r5 q0 q1 q2 q3 q4 q5 n1 n2 n3 HC HQ
          go_wp2_with fail
          go_roundw
          case rel => exact ⟨k + 1, by go_num, hlt, HWK, HBK2, HLK, HEK, HRK⟩
          case measure => simp [intOf]; omega
        · have hge : ¬ (k : Int) < (g.nodes.length : Int) := by omega
          obtain rfl : k = g.nodes.length := by omega
          clear hlt hk
          obtain ⟨ka, kn, kc, hwx, hrow⟩ := HW.out.web
          have hkn : kn = g.nodes.length := by
            rcases hrow.2 with ⟨e1, e2⟩ | ⟨gb, cap, cur, e1, _⟩
            · injection e1 with _ e1 _; omega
            · injection e1
          subst hkn
          have hlp : Ps.length = g.nodes.length := HW.out.len
          have hPl : PlAt wr (.slice ka g.nodes.length kc) Ps := pl_of_own (by rw [hlp]; exact hrow)
          have cR := webAt_any wr _ (.slice none 0 0) _ Ps g.roots hPl (HR.out.later HB.out) HRL.out (by rw [hlp]; exact HRI.out) (by rw [hlp]; have := HM.out; omega)
          have x0 := n2_0 hwx
          have x1 := n2_1 hwx
          have r1 := n2_1 HE1.out
          have hX : w.heap.size + 2 < wr.heap.size := by have h1 := HXL.out; have h2 := HLR.out; omega
          have HXX : Hid (w.heap.size + 2 < wr.heap.size) := hX
          have HPL : Hid (PlAt wr (.slice ka g.nodes.length kc) Ps) := hPl
          have HWX : Hid (wr.heap[w.heap.size + 2]? = some (.cells #[.slice ka g.nodes.length kc, .slice none 0 0] 50 (0, 0))) := hwx
          clear hwx hrow hlp hPl hX
          go_wp2_with fail
          refine cR.mono ?_
          rintro e w1 ⟨⟨v, rfl, ⟨va, vn, vc, rfl⟩, hr⟩, hb⟩
          have HB1 : Hid (Below wr.heap.size wr w1) := hb
          have HRW : Hid (w1.ownsRow wr.heap.size 78 1 (.slice va vn vc) (g.roots.map (blk Ps)).length (plV (g.roots.map (blk Ps)))) := by show World.ownsRow _ _ _ _ _ _ _; rw [List.length_map]; exact hr
          have E2 := (hb.block _ HXX.out).trans HWX.out
          have E1 := (hb.block (w.heap.size + 1) (by have := HXX.out; omega)).trans HR1.out
          have p0 := n2_0 E2
          have p1 := n2_1 E2
          have f1 := n2_f E2 1
          have z0 := n2_0 E1
          have z1 := n2_1 E1
          have y0 := n2_f E1 0
          have y1 := n2_f E1 1
          have HE1' : Hid (w1.heap[w.heap.size + 1]? = some (.cells #[.slice none 0 0, .slice none 0 0] 50 (0, 0))) := E1
          clear hr hb cR x0 x1 r1 E1 E2 g0
          go_wp2_with fail
          obtain ⟨wf, hwf⟩ : ∃ wf, ((w1.setCell ⟨w.heap.size + 2, 1, none⟩ (.slice va vn vc)).setCell ⟨w.heap.size + 1, 0, none⟩ (.slice ka g.nodes.length kc)).setCell ⟨w.heap.size + 1, 1, none⟩ (.slice va vn vc) = wf := ⟨_, rfl⟩
          have hX : ∀ x, x ≠ w.heap.size + 2 → x ≠ w.heap.size + 1 → wf.heap[x]? = w1.heap[x]? := fun x h1 h2 => by
            rw [← hwf, heap_setCell_other _ _ _ _ h2, heap_setCell_other _ _ _ _ h2, heap_setCell_other _ _ _ _ h1]
          have hF : wf.heap[w.heap.size + 1]? = some (.cells #[.slice ka g.nodes.length kc, .slice va vn vc] 50 (0, 0)) := by
            rw [← hwf]
            exact n2_set1 (n2_set0 ((heap_setCell_other _ _ _ _ (by show w.heap.size + 1 ≠ w.heap.size + 2; omega)).trans HE1'.out) _) _
          have hFb : Below w.heap.size w wf := by
            rw [← hwf]
            exact (((HB.out.trans (HB1.out.mono HB.out.size)).setCell (p := ⟨w.heap.size + 2, 1, none⟩) (by show w.heap.size ≤ w.heap.size + 2; omega) _).setCell (p := ⟨w.heap.size + 1, 0, none⟩) (by show w.heap.size ≤ w.heap.size + 1; omega) _).setCell (p := ⟨w.heap.size + 1, 1, none⟩) (by show w.heap.size ≤ w.heap.size + 1; omega) _
          have hrowf : ∀ {lo2 : Nat} {u : Value} {m : Nat} {xs : List Value}, w1.ownsRow lo2 78 1 u m xs → lo ≤ lo2 → wf.ownsRow lo2 78 1 u m xs := fun hr2 hl => g_row_block hr2 (fun x hx => hX x (by have := (hr2.lt x hx).1; have := HXL.out; omega) (by have := (hr2.lt x hx).1; have := HXL.out; omega))
          have hWm := HW.out.stays HB1.out
          obtain ⟨ka2, kn2, kc2, hw2, hrow2⟩ := hWm.web
          have hsame : Value.slice ka2 kn2 kc2 = .slice ka g.nodes.length kc := by
            have h1 := n2_0 hw2
            rw [p0] at h1
            exact (Option.some.inj h1).symm
          rw [hsame] at hrow2
          have hweb : WebAt wf g Ps (.slice ka g.nodes.length kc) (.slice va vn vc) := by
            refine ⟨hWm.len, hWm.nd, pl_of_own (by rw [hWm.len]; exact hrowf hrow2 (Nat.le_refl _)), pl_of_own (hrowf HRW.out HLR.out), fun i n hn => ?_⟩
            have hil : i < g.nodes.length := (List.getElem?_eq_some_iff.1 hn).1
            obtain ⟨kv, g1, g2, _⟩ := hWm.knot i n hil hn
            have hrg := hWm.rng _ (blk_mem (Ps := Ps) (i := i) (by rw [hWm.len]; exact hil))
            refine ⟨kv, (hX _ (by have := HXL.out; omega) (by have := HXL.out; omega)).trans g1, pl_of_own (by rw [List.length_map]; exact hrowf (g2 hil) (Nat.le_refl _))⟩
          try simp only [Exit.inBlock, Exit.then]
          rw [hwf]
          refine bodyPost_ret (results_cell_row rfl _ _ (w.heap.size + 1) 50 _ (0, 0) _ rfl hF Tryd.underlying50 rfl (by kernel_rfl)) rfl ?_
          exact ⟨⟨Ps, _, _, rfl, ⟨_, _, _, rfl⟩, ⟨_, _, _, rfl⟩, hweb⟩, hFb⟩
end Go.Proofs.YtgaibajkegfpoaaDoor
