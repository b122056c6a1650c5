/- The contract of impl.stretchBehind. -/
import Derived.Test.YthlainjkpeioeajIlb
import Derived.Test.YthlainjkpeioeajIpe
import Derived.Handy
import Derived.Laws.ResultCell
namespace Go.Proofs.Ythlainjkpeioeaj
open Go.ChangeShapes Go.WideShapes Go.ChangeAt Go.RowKit Go.Shelf
section
variable {w : World} {b : Nat} {x0 x1 x2 : Value} {t : TypeId}
theorem k3_0 (h : w.heap[b]? = some (.cells #[x0, x1, x2] t (0, 0))) : w.cell? ⟨b, 0, none⟩ = some x0 := by simp [World.cell?, h]
theorem k3_1 (h : w.heap[b]? = some (.cells #[x0, x1, x2] t (0, 0))) : w.cell? ⟨b, 1, none⟩ = some x1 := by simp [World.cell?, h]
theorem k3_2 (h : w.heap[b]? = some (.cells #[x0, x1, x2] t (0, 0))) : w.cell? ⟨b, 2, none⟩ = some x2 := by simp [World.cell?, h]
theorem k3_f (h : w.heap[b]? = some (.cells #[x0, x1, x2] t (0, 0))) (i : Nat) : w.frozen? ⟨b, i, none⟩ = false := by simp [World.frozen?, h]
theorem k3_setAll (h : w.heap[b]? = some (.cells #[x0, x1, x2] t (0, 0))) (a0 a1 a2 : Value) :
    (((w.setCell ⟨b, 0, none⟩ a0).setCell ⟨b, 1, none⟩ a1).setCell ⟨b, 2, none⟩ a2).heap[b]? = some (.cells #[a0, a1, a2] t (0, 0)) := by
  simp [World.setCell, Array.getElem?_modify, h]
end
theorem res_cell_tmp {P : Program} {fn : Func} {p u : Tmp} {ty : TypeId} (h : fn.results = #[.cell p ty, .tmp u]) (tmps : Array Value) (w : World) (g : Nat) (t : TypeId) (cs : Array Value) (fr : Nat × Nat) (d : TypeDesc)
    (hp : tmps.getD p undef = .pointer (some ⟨g, 0, none⟩)) (hg : w.heap[g]? = some (.cells cs t fr))
    (hu : P.underlying ty = some d) (hd : (match d with | .struct _ | .array _ _ => true | _ => false) = true) (hi : (P.info? ty).map (·.size) = some cs.size) :
    (results fn tmps).run P w = .ok (.tuple #[.agg cs, tmps.getD u undef]) w := by
  have hp' : tmps[p]?.getD undef = .pointer (some ⟨g, 0, none⟩) := by simpa using hp
  rw [results_cell_tmp h]
  simp [hp', asAddr, run_loadVar_row w g t ty cs fr d hg hu hd hi, Result.andThen]
/-- The world with the answer's variable made. -/
abbrev stV (w : World) : World := w.alloc (.cells #[.int .i64 0, .int .i64 0, .int .i64 0] 62)
theorem stV_new {w w1 : World} (hb : Below (stV w).heap.size (stV w) w1) : w1.heap[w.heap.size]? = some (.cells #[.int .i64 0, .int .i64 0, .int .i64 0] 62 (0, 0)) :=
  (hb.block _ (by simp)).trans (heap_alloc_new w _)
theorem stV_below {w w1 : World} (hb : Below (stV w).heap.size (stV w) w1) : Below w.heap.size w w1 :=
  ((Below.refl _ w).alloc (Nat.le_refl _) _).trans (hb.mono (by simp))
theorem mark_nat (s : ByteArray) (k v : Nat) (w : World) (hs : s.size ≤ mx) (hk : k ≤ s.size) (hv : markN s k = v) :
    Calls Try.prog 69 #[.string s, .int .i64 (k : Int)] w fun e w' => e = .returned (.int .i64 (v : Int)) ∧ Below w.heap.size w w' := by
  have := mark_any s (k : Int) w hs
  rw [cl_nat _ _ hk, hv] at this
  exact this
theorem indent_nat (s : ByteArray) (k v : Nat) (w : World) (hs : s.size ≤ mx) (hk : k ≤ s.size) (hv : ind s k = v) :
    Calls Try.prog 70 #[.string s, .int .i64 (k : Int)] w fun e w' => e = .returned (.int .i64 (v : Int)) ∧ Below w.heap.size w w' := by
  have := indent_any s (k : Int) w hs
  rw [cl_nat _ _ hk, hv] at this
  exact this
theorem plainEnd_nat (s : ByteArray) (k v : Nat) (fl : Bool) (w : World) (hs : s.size ≤ mx) (hk : k ≤ s.size) (hv : plE s k fl = v) :
    Calls Try.prog 18 #[.string s, .int .i64 (k : Int), .bool fl] w fun e w' => e = .returned (.int .i64 (v : Int)) ∧ Below w.heap.size w w' := by
  refine plainEnd_any s (k : Int) fl w hs v ?_
  rw [cl_nat _ _ hk, hv]
set_option maxHeartbeats 4000000 in
theorem behind_any (s : ByteArray) (e0 : Nat) (n : Int) (fl : Bool) (w : World) (hs : s.size ≤ mx) (he : e0 ≤ s.size) (x : Stx) (b : Bool) (hx : furV s n fl e0 = (x, b)) :
    Calls Try.prog 59 #[.string s, .int .i64 (e0 : Int), .int .i64 n, .bool fl] w fun r w' => r = .returned (.tuple #[.agg #[.int .i64 (x.1 : Int), .int .i64 (x.2.1 : Int), .int .i64 (x.2.2 : Int)], .bool b]) ∧ Below w.heap.size w w' := by
  obtain ⟨q, m, ok, hR⟩ : ∃ q m ok, lbR s e0 = (q, m, ok) := ⟨_, _, _, rfl⟩
  have cL := lineBehind_any s e0 (stV w) hs he q m ok hR
  rw [← sbR_furV, hR] at hx
  cases ok with
  | false =>
    obtain ⟨rfl, rfl⟩ : x = (0, 0, 0) ∧ b = false := by
      have h : ((0, 0, 0), false) = (x, b) := hx
      injection h with h1 h2
      exact ⟨h1.symm, h2.symm⟩
    clear hx hR hs he
    go_enter Try.func59, Try.ntmps59
    go_wp2_with fail
    refine cL.mono ?_
    rintro r w1 ⟨rfl, hb1⟩
    clear cL
    have HB : Hid (Below (stV w).heap.size (stV w) w1) := hb1
    clear hb1
    have r0 := stV_new HB.out
    have hB := stV_below HB.out
    have z0 := k3_0 r0
    have z1 := k3_1 r0
    have z2 := k3_2 r0
    have y0 := k3_f r0 0
    have y1 := k3_f r0 1
    have y2 := k3_f r0 2
    have HR0 : Hid (w1.heap[w.heap.size]? = some (.cells #[.int .i64 0, .int .i64 0, .int .i64 0] 62 (0, 0))) := r0
    have HB' : Hid (Below w.heap.size w w1) := hB
    clear r0 hB HB
    go_wp2_with fail
    have hF := k3_setAll HR0.out (.int .i64 0) (.int .i64 0) (.int .i64 0)
    try simp only [Exit.inBlock, Exit.then]
    refine bodyPost_ret (res_cell_tmp rfl _ _ w.heap.size 62 _ (0, 0) _ rfl hF Try.underlying62 rfl (by kernel_rfl)) rfl ?_
    exact ⟨rfl, ((HB'.out.setCell (Nat.le_refl _) _).setCell (Nat.le_refl _) _).setCell (Nat.le_refl _) _⟩
  | true =>
    obtain ⟨hbg, h1, h2, h3, h4, h5, h6, hS⟩ := lbR_yes hR
    have zero : ∀ {c : Stx × Bool}, c = ((0, 0, 0), false) → sbR s n fl (q, m, true) = c → x = (0, 0, 0) ∧ b = false := by
      intro c hc hcc
      rw [hcc, hc] at hx
      injection hx with h1 h2
      exact ⟨h1.symm, h2.symm⟩
    have cM : Hid (∀ w, Calls Try.prog 69 #[.string s, .int .i64 (q : Int)] w fun e w' => e = .returned (.int .i64 (markN s q : Nat)) ∧ Below w.heap.size w w') := fun w => mark_nat s q _ w hs h3 rfl
    have cI : Hid (∀ w, Calls Try.prog 70 #[.string s, .int .i64 (q : Int)] w fun e w' => e = .returned (.int .i64 (ind s q : Nat)) ∧ Below w.heap.size w w') := fun w => indent_nat s q _ w hs h3 rfl
    have cW : Hid (∀ w, Calls Try.prog 71 #[.string s, .int .i64 (q : Int)] w fun e w' => e = .returned (.int .i64 (wh s q : Nat)) ∧ Below w.heap.size w w') := fun w => white_any_nat s q _ w hs h3 rfl
    have cP : Hid (∀ w, Calls Try.prog 18 #[.string s, .int .i64 (wh s q : Nat), .bool fl] w fun e w' => e = .returned (.int .i64 (plE s (wh s q) fl : Nat)) ∧ Below w.heap.size w w') := fun w => plainEnd_nat s _ _ fl w hs (by omega) rfl
    have cS : Hid (∀ w, Calls Try.prog 33 #[.string s, .int .i64 (wh s q : Nat), .string ⟨#[35]⟩] w fun e w' => e = .returned (.bool (p35q (bt s (wh s q)))) ∧ Below w.heap.size w w') := fun w => signQ s _ _ p35q w _ p35q_signs (sgq_lt h1).symm
    by_cases a1 : 0 < markN s q
    · obtain ⟨rfl, rfl⟩ := zero rfl (by unfold sbR; rw [if_neg (show ¬ ((q, m, true).2.2 = false) from fun h => by cases h), if_pos a1])
      have a1' : ((markN s q : Int) != 0) = true := by rw [bne_iff_ne]; omega
      generalize markN s q = mk at *
      clear hx hR hs he hbg h1 h2 h3 h4 h5 h6 hS zero cI cW cP cS a1
      go_enter Try.func59, Try.ntmps59
      go_wp2_with fail
      refine cL.mono ?_
      rintro r w1 ⟨rfl, hb1⟩
      clear cL
      have HB : Hid (Below (stV w).heap.size (stV w) w1) := hb1
      clear hb1
      go_wp2_with fail
      refine (cM.out w1).mono ?_
      rintro r w2 ⟨rfl, hbn⟩
      clear cM
      replace HB : Hid (Below (stV w).heap.size (stV w) w2) := HB.out.trans (hbn.mono HB.out.size)
      clear hbn
      have r0 := stV_new HB.out
      have hB := stV_below HB.out
      have z0 := k3_0 r0
      have z1 := k3_1 r0
      have z2 := k3_2 r0
      have y0 := k3_f r0 0
      have y1 := k3_f r0 1
      have y2 := k3_f r0 2
      have HR0 : Hid (w2.heap[w.heap.size]? = some (.cells #[.int .i64 0, .int .i64 0, .int .i64 0] 62 (0, 0))) := r0
      have HB' : Hid (Below w.heap.size w w2) := hB
      clear r0 hB HB
      go_wp2_with fail
      have hF := k3_setAll HR0.out (.int .i64 0) (.int .i64 0) (.int .i64 0)
      try simp only [Exit.inBlock, Exit.then]
      refine bodyPost_ret (res_cell_tmp rfl _ _ w.heap.size 62 _ (0, 0) _ rfl hF Try.underlying62 rfl (by kernel_rfl)) rfl ?_
      exact ⟨rfl, ((HB'.out.setCell (Nat.le_refl _) _).setCell (Nat.le_refl _) _).setCell (Nat.le_refl _) _⟩
    · have a1' : ((markN s q : Int) != 0) = false := by rw [bne_eq_false_iff_eq]; omega
      by_cases a2 : fl = false ∧ (ind s q : Int) ≤ n
      · obtain ⟨rfl, rfl⟩ := zero rfl (by unfold sbR; rw [if_neg (show ¬ ((q, m, true).2.2 = false) from fun h => by cases h), if_neg a1, if_pos a2])
        obtain ⟨rfl, a2'⟩ := a2
        generalize markN s q = mk at *
        generalize ind s q = iq at *
        clear hx hR hs he hbg h1 h2 h3 h4 h5 h6 hS zero cW cP cS a1
        go_enter Try.func59, Try.ntmps59
        go_wp2_with fail
        refine cL.mono ?_
        rintro r w1 ⟨rfl, hb1⟩
        clear cL
        have HB : Hid (Below (stV w).heap.size (stV w) w1) := hb1
        clear hb1
        go_wp2_with fail
        refine (cM.out w1).mono ?_
        rintro r w2 ⟨rfl, hbn⟩
        clear cM
        replace HB : Hid (Below (stV w).heap.size (stV w) w2) := HB.out.trans (hbn.mono HB.out.size)
        clear hbn
        go_wp2_with fail
        refine (cI.out w2).mono ?_
        rintro r w3 ⟨rfl, hbn⟩
        clear cI
        replace HB : Hid (Below (stV w).heap.size (stV w) w3) := HB.out.trans (hbn.mono HB.out.size)
        clear hbn
        have r0 := stV_new HB.out
        have hB := stV_below HB.out
        have z0 := k3_0 r0
        have z1 := k3_1 r0
        have z2 := k3_2 r0
        have y0 := k3_f r0 0
        have y1 := k3_f r0 1
        have y2 := k3_f r0 2
        have HR0 : Hid (w3.heap[w.heap.size]? = some (.cells #[.int .i64 0, .int .i64 0, .int .i64 0] 62 (0, 0))) := r0
        have HB' : Hid (Below w.heap.size w w3) := hB
        clear r0 hB HB
        go_wp2_with fail
        have hF := k3_setAll HR0.out (.int .i64 0) (.int .i64 0) (.int .i64 0)
        try simp only [Exit.inBlock, Exit.then]
        refine bodyPost_ret (res_cell_tmp rfl _ _ w.heap.size 62 _ (0, 0) _ rfl hF Try.underlying62 rfl (by kernel_rfl)) rfl ?_
        exact ⟨rfl, ((HB'.out.setCell (Nat.le_refl _) _).setCell (Nat.le_refl _) _).setCell (Nat.le_refl _) _⟩
      · have go2 : fl = true ∨ (fl = false ∧ ¬ (ind s q : Int) ≤ n) := by
          cases fl with
          | true => exact .inl rfl
          | false => exact .inr ⟨rfl, fun h => a2 ⟨rfl, h⟩⟩
        obtain ⟨y, hy⟩ : ∃ y, wh s q = y := ⟨_, rfl⟩
        obtain ⟨z, hz⟩ : ∃ z, plE s y fl = z := ⟨_, rfl⟩
        rw [hy] at cW cP cS
        rw [hz] at cP
        by_cases a3 : bt s y = 35
        · obtain ⟨rfl, rfl⟩ := zero rfl (by unfold sbR; rw [if_neg (show ¬ ((q, m, true).2.2 = false) from fun h => by cases h), if_neg a1, if_neg a2, if_pos (show bt s (wh s q) = 35 by rw [hy]; exact a3)])
          rw [show p35q (bt s y) = true by rw [a3]; rfl] at cS
          generalize markN s q = mk at *
          generalize ind s q = iq at *
          clear hR hs he hbg h1 h2 h3 h4 h5 h6 hS zero hx hy hz a1 a2 a3
          rcases go2 with rfl | ⟨rfl, a2'⟩
          · clear cI
            go_enter Try.func59, Try.ntmps59
            go_wp2_with fail
            refine cL.mono ?_
            rintro r w1 ⟨rfl, hb1⟩
            clear cL
            have HB : Hid (Below (stV w).heap.size (stV w) w1) := hb1
            clear hb1
            go_wp2_with fail
            refine (cM.out w1).mono ?_
            rintro r w2 ⟨rfl, hbn⟩
            clear cM
            replace HB : Hid (Below (stV w).heap.size (stV w) w2) := HB.out.trans (hbn.mono HB.out.size)
            clear hbn
            go_wp2_with fail
            refine (cW.out w2).mono ?_
            rintro r w3 ⟨rfl, hbn⟩
            clear cW
            replace HB : Hid (Below (stV w).heap.size (stV w) w3) := HB.out.trans (hbn.mono HB.out.size)
            clear hbn
            go_wp2_with fail
            refine (cP.out w3).mono ?_
            rintro r w4 ⟨rfl, hbn⟩
            clear cP
            replace HB : Hid (Below (stV w).heap.size (stV w) w4) := HB.out.trans (hbn.mono HB.out.size)
            clear hbn
            go_wp2_with fail
            refine (cS.out w4).mono ?_
            rintro r w5 ⟨rfl, hbn⟩
            clear cS
            replace HB : Hid (Below (stV w).heap.size (stV w) w5) := HB.out.trans (hbn.mono HB.out.size)
            clear hbn
            have r0 := stV_new HB.out
            have hB := stV_below HB.out
            have z0 := k3_0 r0
            have z1 := k3_1 r0
            have z2 := k3_2 r0
            have y0 := k3_f r0 0
            have y1 := k3_f r0 1
            have y2 := k3_f r0 2
            have HR0 : Hid (w5.heap[w.heap.size]? = some (.cells #[.int .i64 0, .int .i64 0, .int .i64 0] 62 (0, 0))) := r0
            have HB' : Hid (Below w.heap.size w w5) := hB
            clear r0 hB HB
            go_wp2_with fail
            have hF := k3_setAll HR0.out (.int .i64 0) (.int .i64 0) (.int .i64 0)
            try simp only [Exit.inBlock, Exit.then]
            refine bodyPost_ret (res_cell_tmp rfl _ _ w.heap.size 62 _ (0, 0) _ rfl hF Try.underlying62 rfl (by kernel_rfl)) rfl ?_
            exact ⟨rfl, ((HB'.out.setCell (Nat.le_refl _) _).setCell (Nat.le_refl _) _).setCell (Nat.le_refl _) _⟩
          ·
            go_enter Try.func59, Try.ntmps59
            go_wp2_with fail
            refine cL.mono ?_
            rintro r w1 ⟨rfl, hb1⟩
            clear cL
            have HB : Hid (Below (stV w).heap.size (stV w) w1) := hb1
            clear hb1
            go_wp2_with fail
            refine (cM.out w1).mono ?_
            rintro r w2 ⟨rfl, hbn⟩
            clear cM
            replace HB : Hid (Below (stV w).heap.size (stV w) w2) := HB.out.trans (hbn.mono HB.out.size)
            clear hbn
            go_wp2_with fail
            refine (cI.out w2).mono ?_
            rintro r w3 ⟨rfl, hbn⟩
            clear cI
            replace HB : Hid (Below (stV w).heap.size (stV w) w3) := HB.out.trans (hbn.mono HB.out.size)
            clear hbn
            go_wp2_with fail
            refine (cW.out w3).mono ?_
            rintro r w4 ⟨rfl, hbn⟩
            clear cW
            replace HB : Hid (Below (stV w).heap.size (stV w) w4) := HB.out.trans (hbn.mono HB.out.size)
            clear hbn
            go_wp2_with fail
            refine (cP.out w4).mono ?_
            rintro r w5 ⟨rfl, hbn⟩
            clear cP
            replace HB : Hid (Below (stV w).heap.size (stV w) w5) := HB.out.trans (hbn.mono HB.out.size)
            clear hbn
            go_wp2_with fail
            refine (cS.out w5).mono ?_
            rintro r w6 ⟨rfl, hbn⟩
            clear cS
            replace HB : Hid (Below (stV w).heap.size (stV w) w6) := HB.out.trans (hbn.mono HB.out.size)
            clear hbn
            have r0 := stV_new HB.out
            have hB := stV_below HB.out
            have z0 := k3_0 r0
            have z1 := k3_1 r0
            have z2 := k3_2 r0
            have y0 := k3_f r0 0
            have y1 := k3_f r0 1
            have y2 := k3_f r0 2
            have HR0 : Hid (w6.heap[w.heap.size]? = some (.cells #[.int .i64 0, .int .i64 0, .int .i64 0] 62 (0, 0))) := r0
            have HB' : Hid (Below w.heap.size w w6) := hB
            clear r0 hB HB
            go_wp2_with fail
            have hF := k3_setAll HR0.out (.int .i64 0) (.int .i64 0) (.int .i64 0)
            try simp only [Exit.inBlock, Exit.then]
            refine bodyPost_ret (res_cell_tmp rfl _ _ w.heap.size 62 _ (0, 0) _ rfl hF Try.underlying62 rfl (by kernel_rfl)) rfl ?_
            exact ⟨rfl, ((HB'.out.setCell (Nat.le_refl _) _).setCell (Nat.le_refl _) _).setCell (Nat.le_refl _) _⟩
        · rw [show p35q (bt s y) = false by unfold p35q; rw [beq_eq_false_iff_ne]; exact a3] at cS
          by_cases a4 : z = y
          · obtain ⟨rfl, rfl⟩ := zero rfl (by unfold sbR; rw [if_neg (show ¬ ((q, m, true).2.2 = false) from fun h => by cases h), if_neg a1, if_neg a2, if_neg (show ¬ bt s (wh s q) = 35 by rw [hy]; exact a3), if_pos (show plE s (wh s q) fl = wh s q by rw [hy, hz]; exact a4)])
            have a4' : ((z : Int) == (y : Int)) = true := by rw [beq_iff_eq, a4]
            generalize markN s q = mk at *
            generalize ind s q = iq at *
            clear hR hs he hbg h1 h2 h3 h4 h5 h6 hS zero hx hy hz a1 a2 a3 a4
            rcases go2 with rfl | ⟨rfl, a2'⟩
            · clear cI
              go_enter Try.func59, Try.ntmps59
              go_wp2_with fail
              refine cL.mono ?_
              rintro r w1 ⟨rfl, hb1⟩
              clear cL
              have HB : Hid (Below (stV w).heap.size (stV w) w1) := hb1
              clear hb1
              go_wp2_with fail
              refine (cM.out w1).mono ?_
              rintro r w2 ⟨rfl, hbn⟩
              clear cM
              replace HB : Hid (Below (stV w).heap.size (stV w) w2) := HB.out.trans (hbn.mono HB.out.size)
              clear hbn
              go_wp2_with fail
              refine (cW.out w2).mono ?_
              rintro r w3 ⟨rfl, hbn⟩
              clear cW
              replace HB : Hid (Below (stV w).heap.size (stV w) w3) := HB.out.trans (hbn.mono HB.out.size)
              clear hbn
              go_wp2_with fail
              refine (cP.out w3).mono ?_
              rintro r w4 ⟨rfl, hbn⟩
              clear cP
              replace HB : Hid (Below (stV w).heap.size (stV w) w4) := HB.out.trans (hbn.mono HB.out.size)
              clear hbn
              go_wp2_with fail
              refine (cS.out w4).mono ?_
              rintro r w5 ⟨rfl, hbn⟩
              clear cS
              replace HB : Hid (Below (stV w).heap.size (stV w) w5) := HB.out.trans (hbn.mono HB.out.size)
              clear hbn
              have r0 := stV_new HB.out
              have hB := stV_below HB.out
              have z0 := k3_0 r0
              have z1 := k3_1 r0
              have z2 := k3_2 r0
              have y0 := k3_f r0 0
              have y1 := k3_f r0 1
              have y2 := k3_f r0 2
              have HR0 : Hid (w5.heap[w.heap.size]? = some (.cells #[.int .i64 0, .int .i64 0, .int .i64 0] 62 (0, 0))) := r0
              have HB' : Hid (Below w.heap.size w w5) := hB
              clear r0 hB HB
              go_wp2_with fail
              have hF := k3_setAll HR0.out (.int .i64 0) (.int .i64 0) (.int .i64 0)
              try simp only [Exit.inBlock, Exit.then]
              refine bodyPost_ret (res_cell_tmp rfl _ _ w.heap.size 62 _ (0, 0) _ rfl hF Try.underlying62 rfl (by kernel_rfl)) rfl ?_
              exact ⟨rfl, ((HB'.out.setCell (Nat.le_refl _) _).setCell (Nat.le_refl _) _).setCell (Nat.le_refl _) _⟩
            ·
              go_enter Try.func59, Try.ntmps59
              go_wp2_with fail
              refine cL.mono ?_
              rintro r w1 ⟨rfl, hb1⟩
              clear cL
              have HB : Hid (Below (stV w).heap.size (stV w) w1) := hb1
              clear hb1
              go_wp2_with fail
              refine (cM.out w1).mono ?_
              rintro r w2 ⟨rfl, hbn⟩
              clear cM
              replace HB : Hid (Below (stV w).heap.size (stV w) w2) := HB.out.trans (hbn.mono HB.out.size)
              clear hbn
              go_wp2_with fail
              refine (cI.out w2).mono ?_
              rintro r w3 ⟨rfl, hbn⟩
              clear cI
              replace HB : Hid (Below (stV w).heap.size (stV w) w3) := HB.out.trans (hbn.mono HB.out.size)
              clear hbn
              go_wp2_with fail
              refine (cW.out w3).mono ?_
              rintro r w4 ⟨rfl, hbn⟩
              clear cW
              replace HB : Hid (Below (stV w).heap.size (stV w) w4) := HB.out.trans (hbn.mono HB.out.size)
              clear hbn
              go_wp2_with fail
              refine (cP.out w4).mono ?_
              rintro r w5 ⟨rfl, hbn⟩
              clear cP
              replace HB : Hid (Below (stV w).heap.size (stV w) w5) := HB.out.trans (hbn.mono HB.out.size)
              clear hbn
              go_wp2_with fail
              refine (cS.out w5).mono ?_
              rintro r w6 ⟨rfl, hbn⟩
              clear cS
              replace HB : Hid (Below (stV w).heap.size (stV w) w6) := HB.out.trans (hbn.mono HB.out.size)
              clear hbn
              have r0 := stV_new HB.out
              have hB := stV_below HB.out
              have z0 := k3_0 r0
              have z1 := k3_1 r0
              have z2 := k3_2 r0
              have y0 := k3_f r0 0
              have y1 := k3_f r0 1
              have y2 := k3_f r0 2
              have HR0 : Hid (w6.heap[w.heap.size]? = some (.cells #[.int .i64 0, .int .i64 0, .int .i64 0] 62 (0, 0))) := r0
              have HB' : Hid (Below w.heap.size w w6) := hB
              clear r0 hB HB
              go_wp2_with fail
              have hF := k3_setAll HR0.out (.int .i64 0) (.int .i64 0) (.int .i64 0)
              try simp only [Exit.inBlock, Exit.then]
              refine bodyPost_ret (res_cell_tmp rfl _ _ w.heap.size 62 _ (0, 0) _ rfl hF Try.underlying62 rfl (by kernel_rfl)) rfl ?_
              exact ⟨rfl, ((HB'.out.setCell (Nat.le_refl _) _).setCell (Nat.le_refl _) _).setCell (Nat.le_refl _) _⟩
          · have hxx : ((y, z, m), true) = (x, b) := by
              rw [← hx]
              unfold sbR
              rw [if_neg (show ¬ ((q, m, true).2.2 = false) from fun h => by cases h), if_neg a1, if_neg a2, if_neg (show ¬ bt s (wh s q) = 35 by rw [hy]; exact a3), if_neg (show ¬ plE s (wh s q) fl = wh s q by rw [hy, hz]; exact a4)]
              show _ = ((wh s q, plE s (wh s q) fl, m), true)
              rw [hy, hz]
            obtain ⟨rfl, rfl⟩ : (y, z, m) = x ∧ true = b := by injection hxx with h1 h2; exact ⟨h1, h2⟩
            have a4' : ((z : Int) == (y : Int)) = false := by rw [beq_eq_false_iff_ne]; omega
            clear hxx
            generalize markN s q = mk at *
            generalize ind s q = iq at *
            clear hR hs he hbg h1 h2 h3 h4 h5 h6 hS zero hx hy hz a1 a2 a3 a4
            rcases go2 with rfl | ⟨rfl, a2'⟩
            · clear cI
              go_enter Try.func59, Try.ntmps59
              go_wp2_with fail
              refine cL.mono ?_
              rintro r w1 ⟨rfl, hb1⟩
              clear cL
              have HB : Hid (Below (stV w).heap.size (stV w) w1) := hb1
              clear hb1
              go_wp2_with fail
              refine (cM.out w1).mono ?_
              rintro r w2 ⟨rfl, hbn⟩
              clear cM
              replace HB : Hid (Below (stV w).heap.size (stV w) w2) := HB.out.trans (hbn.mono HB.out.size)
              clear hbn
              go_wp2_with fail
              refine (cW.out w2).mono ?_
              rintro r w3 ⟨rfl, hbn⟩
              clear cW
              replace HB : Hid (Below (stV w).heap.size (stV w) w3) := HB.out.trans (hbn.mono HB.out.size)
              clear hbn
              go_wp2_with fail
              refine (cP.out w3).mono ?_
              rintro r w4 ⟨rfl, hbn⟩
              clear cP
              replace HB : Hid (Below (stV w).heap.size (stV w) w4) := HB.out.trans (hbn.mono HB.out.size)
              clear hbn
              go_wp2_with fail
              refine (cS.out w4).mono ?_
              rintro r w5 ⟨rfl, hbn⟩
              clear cS
              replace HB : Hid (Below (stV w).heap.size (stV w) w5) := HB.out.trans (hbn.mono HB.out.size)
              clear hbn
              have r0 := stV_new HB.out
              have hB := stV_below HB.out
              have z0 := k3_0 r0
              have z1 := k3_1 r0
              have z2 := k3_2 r0
              have y0 := k3_f r0 0
              have y1 := k3_f r0 1
              have y2 := k3_f r0 2
              have HR0 : Hid (w5.heap[w.heap.size]? = some (.cells #[.int .i64 0, .int .i64 0, .int .i64 0] 62 (0, 0))) := r0
              have HB' : Hid (Below w.heap.size w w5) := hB
              clear r0 hB HB
              go_wp2_with fail
              have hF := k3_setAll HR0.out (.int .i64 (y : Int)) (.int .i64 (z : Int)) (.int .i64 (m : Int))
              try simp only [Exit.inBlock, Exit.then]
              refine bodyPost_ret (res_cell_tmp rfl _ _ w.heap.size 62 _ (0, 0) _ rfl hF Try.underlying62 rfl (by kernel_rfl)) rfl ?_
              exact ⟨rfl, ((HB'.out.setCell (Nat.le_refl _) _).setCell (Nat.le_refl _) _).setCell (Nat.le_refl _) _⟩
            ·
              go_enter Try.func59, Try.ntmps59
              go_wp2_with fail
              refine cL.mono ?_
              rintro r w1 ⟨rfl, hb1⟩
              clear cL
              have HB : Hid (Below (stV w).heap.size (stV w) w1) := hb1
              clear hb1
              go_wp2_with fail
              refine (cM.out w1).mono ?_
              rintro r w2 ⟨rfl, hbn⟩
              clear cM
              replace HB : Hid (Below (stV w).heap.size (stV w) w2) := HB.out.trans (hbn.mono HB.out.size)
              clear hbn
              go_wp2_with fail
              refine (cI.out w2).mono ?_
              rintro r w3 ⟨rfl, hbn⟩
              clear cI
              replace HB : Hid (Below (stV w).heap.size (stV w) w3) := HB.out.trans (hbn.mono HB.out.size)
              clear hbn
              go_wp2_with fail
              refine (cW.out w3).mono ?_
              rintro r w4 ⟨rfl, hbn⟩
              clear cW
              replace HB : Hid (Below (stV w).heap.size (stV w) w4) := HB.out.trans (hbn.mono HB.out.size)
              clear hbn
              go_wp2_with fail
              refine (cP.out w4).mono ?_
              rintro r w5 ⟨rfl, hbn⟩
              clear cP
              replace HB : Hid (Below (stV w).heap.size (stV w) w5) := HB.out.trans (hbn.mono HB.out.size)
              clear hbn
              go_wp2_with fail
              refine (cS.out w5).mono ?_
              rintro r w6 ⟨rfl, hbn⟩
              clear cS
              replace HB : Hid (Below (stV w).heap.size (stV w) w6) := HB.out.trans (hbn.mono HB.out.size)
              clear hbn
              have r0 := stV_new HB.out
              have hB := stV_below HB.out
              have z0 := k3_0 r0
              have z1 := k3_1 r0
              have z2 := k3_2 r0
              have y0 := k3_f r0 0
              have y1 := k3_f r0 1
              have y2 := k3_f r0 2
              have HR0 : Hid (w6.heap[w.heap.size]? = some (.cells #[.int .i64 0, .int .i64 0, .int .i64 0] 62 (0, 0))) := r0
              have HB' : Hid (Below w.heap.size w w6) := hB
              clear r0 hB HB
              go_wp2_with fail
              have hF := k3_setAll HR0.out (.int .i64 (y : Int)) (.int .i64 (z : Int)) (.int .i64 (m : Int))
              try simp only [Exit.inBlock, Exit.then]
              refine bodyPost_ret (res_cell_tmp rfl _ _ w.heap.size 62 _ (0, 0) _ rfl hF Try.underlying62 rfl (by kernel_rfl)) rfl ?_
              exact ⟨rfl, ((HB'.out.setCell (Nat.le_refl _) _).setCell (Nat.le_refl _) _).setCell (Nat.le_refl _) _⟩
end Go.Proofs.Ythlainjkpeioeaj
