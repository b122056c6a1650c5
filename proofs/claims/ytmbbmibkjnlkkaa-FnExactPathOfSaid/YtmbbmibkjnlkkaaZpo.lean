/- Several texts in one: Itj Ik1 Ik2 Ik3. -/
import Derived.Test.YtmbbmibkjnlkkaaZpn
/- impl's ties: tie. -/
namespace Go.Proofs.Ytmbbmibkjnlkkaa
open Go.ChangeShapes Go.WideShapes Go.ChangeAt Go.RowKit Go.Maps
theorem Ti.miss_is (t : Ti) : t.miss.root = t.root ∧ t.miss.named = t.named ∧ t.miss.defs = t.defs ∧ t.miss.loose = t.loose + 1 := ⟨rfl, rfl, rfl, rfl⟩
section
variable {b B1 B2 : Nat} {lv : Value} {w0 w : World} {t : Ti} {k : Nat}
theorem TsI.miss4 (h : TsI b B1 B2 lv w0 t k w) : TsI b B1 B2 lv w0 t.miss (k + 1) (w.setCell ⟨b, 4, none⟩ (.int .i64 ((t.loose : Int) + 1))) := by
  have e : ((t.loose : Int) + 1) = ((t.loose + 1 : Nat) : Int) := by omega
  rw [e]
  refine h.cell (t' := t.miss) ?_ rfl rfl (Nat.le_succ k) (by have := h.ls; show t.loose + 1 ≤ k + 1; omega)
  exact h.at_.set4 (t.loose + 1)
end
set_option maxRecDepth 100000 in
set_option maxHeartbeats 8000000 in
theorem tie_none (b B1 B2 : Nat) (lv : Value) (w0 w : World) (t : Ti) (k : Nat) (x : ByteArray) (a : Nat) (hN : t.named x = none) (hI : TsI b B1 B2 lv w0 t k w) (hx : x.size ≤ 1073741824) (ha : a ≤ 1048576) (hk : k ≤ 1048576) :
    Calls Try.prog 46 #[.pointer (some ⟨b, 0, none⟩), .string x, .int .i64 (a : Int)] w fun e w' => e = .returned (.tuple #[]) ∧ TsI b B1 B2 lv w0 t.miss (k + 1) w' ∧ KeepO b B1 B2 w w' := by
  obtain ⟨n1, hn1, hM⟩ := hI.nm
  have hlook := hM.look_no nkeyed Try.underlying59 (zeroSp w) (nkey_mk hx) hN
  obtain ⟨W, hW⟩ : ∃ W, w.alloc (.cells #[.int .i64 0, .int .i64 0, .int .i64 0] 64) = W := ⟨_, rfl⟩
  have hBW : Below w.heap.size w W := by rw [← hW]; exact al_belowN w _
  obtain ⟨u0, u1, u2⟩ : W.cell? ⟨w.heap.size, 0, none⟩ = some (.int .i64 0) ∧ W.cell? ⟨w.heap.size, 1, none⟩ = some (.int .i64 0) ∧ W.cell? ⟨w.heap.size, 2, none⟩ = some (.int .i64 0) := by rw [← hW]; exact al_new3
  have hIW := hI.stays hBW
  have HI : Hid (TsI b B1 B2 lv w0 t k W) := hIW
  have HK : Hid (KeepO b B1 B2 w W) := KeepO.of hBW
  have hsz : w.heap.size < W.heap.size := by rw [← hW]; simp
  have hm : ∀ (m : Bw W) (q j : Nat), q < W.heap.size → m.val.cell? ⟨q, j, none⟩ = W.cell? ⟨q, j, none⟩ := fun m q j hq => m.ok.cell hq
  have m0 := fun m : Bw W => (hm m w.heap.size 0 hsz).trans u0
  have m1 := fun m : Bw W => (hm m w.heap.size 1 hsz).trans u1
  have m2 := fun m : Bw W => (hm m w.heap.size 2 hsz).trans u2
  have mc := fun m : Bw W => (hm m b 1 hIW.at_.lt).trans hIW.at_.c1
  have hne0 := Bw.some W
  have c2 := hI.at_.c2
  have HW : Hid (w.alloc (.cells #[.int .i64 0, .int .i64 0, .int .i64 0] 64) = W) := hW
  have HAK : Hid (a ≤ 1048576 ∧ k ≤ 1048576) := ⟨ha, hk⟩
  have hlk : (t.loose : Int) ≤ 1048576 := by have := hI.ls; omega
  clear hM hn1 hW hBW hIW hm u0 u1 u2 hsz hI hx ha hk hN
  go_enter Try.func46, Try.ntmps46
  go_wp2_with fail
  rw [HW.out]
  clear hlook c2 HW
  go_wp2_with fail
  refine wp_region_bw (w0 := W) (by kernel_rfl) (by kernel_rfl) (Below.refl _ _) ?_
  repeat (go_big_quiet_step (fail))
  refine wpQuiet_nil ?_
  rintro _ ⟨mw, rfl⟩
  have hI2 := HI.out.stays mw.ok
  have HK2 : Hid (KeepO b B1 B2 w mw.val) := HK.out.trans (KeepO.of mw.ok)
  have d4 := hI2.at_.c4
  have f4 := hI2.at_.fz 4
  have HQ : Hid (TsI b B1 B2 lv w0 t.miss (k + 1) (mw.val.setCell ⟨b, 4, none⟩ (.int .i64 ((t.loose : Int) + 1))) ∧ KeepO b B1 B2 w (mw.val.setCell ⟨b, 4, none⟩ (.int .i64 ((t.loose : Int) + 1)))) := ⟨hI2.miss4, HK2.out.trans (hI2.keep 4 _)⟩
  clear hI2 m0 m1 m2 mc hne0
  generalize mw.val = w2 at *
  go_wp2_with fail
  refine bodyPost_ret (results_none rfl _ _ _) rfl ?_
  exact ⟨rfl, HQ.out⟩
set_option maxRecDepth 100000 in
set_option maxHeartbeats 8000000 in
theorem tie_old (b B1 B2 : Nat) (lv : Value) (w0 w : World) (t : Ti) (k : Nat) (x : ByteArray) (a : Nat) (n : Sp) (hN : t.named x = some n) (hO : n.at_ < t.root) (hI : TsI b B1 B2 lv w0 t k w) (hx : x.size ≤ 1073741824) (ha : a ≤ 1048576) (hk : k ≤ 1048576) :
    Calls Try.prog 46 #[.pointer (some ⟨b, 0, none⟩), .string x, .int .i64 (a : Int)] w fun e w' => e = .returned (.tuple #[]) ∧ TsI b B1 B2 lv w0 t.miss (k + 1) w' ∧ KeepO b B1 B2 w w' := by
  obtain ⟨n1, hn1, hM⟩ := hI.nm
  have hlook := hM.look_yes nkeyed Try.underlying59 (zeroSp w) (nkey_mk hx) hN
  unfold Sp.val at hlook
  obtain ⟨W, hW⟩ : ∃ W, w.alloc (.cells #[.int .i64 (n.at_ : Int), .int .i64 n.end_, .int .i64 n.up] 64) = W := ⟨_, rfl⟩
  have hBW : Below w.heap.size w W := by rw [← hW]; exact al_belowN w _
  obtain ⟨u0, u1, u2⟩ : W.cell? ⟨w.heap.size, 0, none⟩ = some (.int .i64 (n.at_ : Int)) ∧ W.cell? ⟨w.heap.size, 1, none⟩ = some (.int .i64 n.end_) ∧ W.cell? ⟨w.heap.size, 2, none⟩ = some (.int .i64 n.up) := by rw [← hW]; exact al_new3
  have hIW := hI.stays hBW
  have HI : Hid (TsI b B1 B2 lv w0 t k W) := hIW
  have HK : Hid (KeepO b B1 B2 w W) := KeepO.of hBW
  have hsz : w.heap.size < W.heap.size := by rw [← hW]; simp
  have hm : ∀ (m : Bw W) (q j : Nat), q < W.heap.size → m.val.cell? ⟨q, j, none⟩ = W.cell? ⟨q, j, none⟩ := fun m q j hq => m.ok.cell hq
  have m0 := fun m : Bw W => (hm m w.heap.size 0 hsz).trans u0
  have m1 := fun m : Bw W => (hm m w.heap.size 1 hsz).trans u1
  have m2 := fun m : Bw W => (hm m w.heap.size 2 hsz).trans u2
  have mc := fun m : Bw W => (hm m b 1 hIW.at_.lt).trans hIW.at_.c1
  have hne0 := Bw.some W
  have c2 := hI.at_.c2
  have HW : Hid (w.alloc (.cells #[.int .i64 (n.at_ : Int), .int .i64 n.end_, .int .i64 n.up] 64) = W) := hW
  have HAK : Hid (a ≤ 1048576 ∧ k ≤ 1048576) := ⟨ha, hk⟩
  have hlk : (t.loose : Int) ≤ 1048576 := by have := hI.ls; omega
  have hO' : (n.at_ : Int) < (t.root : Int) := by omega
  clear hO
  clear hM hn1 hW hBW hIW hm u0 u1 u2 hsz hI hx ha hk hN
  go_enter Try.func46, Try.ntmps46
  go_wp2_with fail
  rw [HW.out]
  clear hlook c2 HW
  go_wp2_with fail
  refine wp_region_bw (w0 := W) (by kernel_rfl) (by kernel_rfl) (Below.refl _ _) ?_
  repeat (go_big_quiet_step (fail))
  refine wpQuiet_nil ?_
  rintro _ ⟨mw, rfl⟩
  have hI2 := HI.out.stays mw.ok
  have HK2 : Hid (KeepO b B1 B2 w mw.val) := HK.out.trans (KeepO.of mw.ok)
  have d4 := hI2.at_.c4
  have f4 := hI2.at_.fz 4
  have HQ : Hid (TsI b B1 B2 lv w0 t.miss (k + 1) (mw.val.setCell ⟨b, 4, none⟩ (.int .i64 ((t.loose : Int) + 1))) ∧ KeepO b B1 B2 w (mw.val.setCell ⟨b, 4, none⟩ (.int .i64 ((t.loose : Int) + 1)))) := ⟨hI2.miss4, HK2.out.trans (hI2.keep 4 _)⟩
  clear hI2 m0 m1 m2 mc hne0 hO'
  generalize mw.val = w2 at *
  go_wp2_with fail
  refine bodyPost_ret (results_none rfl _ _ _) rfl ?_
  exact ⟨rfl, HQ.out⟩
set_option maxRecDepth 100000 in
set_option maxHeartbeats 8000000 in
theorem tie_open (b B1 B2 : Nat) (lv : Value) (w0 w : World) (t : Ti) (k : Nat) (x : ByteArray) (a : Nat) (n : Sp) (hN : t.named x = some n) (hO : ¬ n.at_ < t.root) (hR : ahead n (a : Int) = false) (hI : TsI b B1 B2 lv w0 t k w) (hx : x.size ≤ 1073741824) (ha : a ≤ 1048576) (hk : k ≤ 1048576) :
    Calls Try.prog 46 #[.pointer (some ⟨b, 0, none⟩), .string x, .int .i64 (a : Int)] w fun e w' => e = .returned (.tuple #[]) ∧ TsI b B1 B2 lv w0 t.miss (k + 1) w' ∧ KeepO b B1 B2 w w' := by
  obtain ⟨n1, hn1, hM⟩ := hI.nm
  have hlook := hM.look_yes nkeyed Try.underlying59 (zeroSp w) (nkey_mk hx) hN
  unfold Sp.val at hlook
  obtain ⟨W, hW⟩ : ∃ W, w.alloc (.cells #[.int .i64 (n.at_ : Int), .int .i64 n.end_, .int .i64 n.up] 64) = W := ⟨_, rfl⟩
  have hBW : Below w.heap.size w W := by rw [← hW]; exact al_belowN w _
  obtain ⟨u0, u1, u2⟩ : W.cell? ⟨w.heap.size, 0, none⟩ = some (.int .i64 (n.at_ : Int)) ∧ W.cell? ⟨w.heap.size, 1, none⟩ = some (.int .i64 n.end_) ∧ W.cell? ⟨w.heap.size, 2, none⟩ = some (.int .i64 n.up) := by rw [← hW]; exact al_new3
  have hIW := hI.stays hBW
  have HI : Hid (TsI b B1 B2 lv w0 t k W) := hIW
  have HK : Hid (KeepO b B1 B2 w W) := KeepO.of hBW
  have hsz : w.heap.size < W.heap.size := by rw [← hW]; simp
  have hm : ∀ (m : Bw W) (q j : Nat), q < W.heap.size → m.val.cell? ⟨q, j, none⟩ = W.cell? ⟨q, j, none⟩ := fun m q j hq => m.ok.cell hq
  have m0 := fun m : Bw W => (hm m w.heap.size 0 hsz).trans u0
  have m1 := fun m : Bw W => (hm m w.heap.size 1 hsz).trans u1
  have m2 := fun m : Bw W => (hm m w.heap.size 2 hsz).trans u2
  have mc := fun m : Bw W => (hm m b 1 hIW.at_.lt).trans hIW.at_.c1
  have hne0 := Bw.some W
  have c2 := hI.at_.c2
  have HW : Hid (w.alloc (.cells #[.int .i64 (n.at_ : Int), .int .i64 n.end_, .int .i64 n.up] 64) = W) := hW
  have HAK : Hid (a ≤ 1048576 ∧ k ≤ 1048576) := ⟨ha, hk⟩
  have hlk : (t.loose : Int) ≤ 1048576 := by have := hI.ls; omega
  have hA := Bw.calls (w := W) (fun w' _ => ahead_any n (a : Int) w')
  rw [hR] at hA
  unfold Sp.val at hA
  have hO' : decide ((n.at_ : Int) < (t.root : Int)) = false := decide_eq_false (by omega)
  have hO2 : ¬ (n.at_ : Int) < (t.root : Int) := by omega
  have hO3 : decide (n.at_ < t.root) = false := decide_eq_false hO
  clear hR
  clear hM hn1 hW hBW hIW hm u0 u1 u2 hsz hI hx ha hk hN
  go_enter Try.func46, Try.ntmps46
  go_wp2_with fail
  rw [HW.out]
  clear hlook c2 HW
  go_wp2_with fail
  refine wp_region_bw (w0 := W) (by kernel_rfl) (by kernel_rfl) (Below.refl _ _) ?_
  repeat (go_big_quiet_step ((go_at_call 55; exact hA _)))
  refine wpQuiet_nil ?_
  rintro _ ⟨mw, rfl⟩
  have hI2 := HI.out.stays mw.ok
  have HK2 : Hid (KeepO b B1 B2 w mw.val) := HK.out.trans (KeepO.of mw.ok)
  have d4 := hI2.at_.c4
  have f4 := hI2.at_.fz 4
  have HQ : Hid (TsI b B1 B2 lv w0 t.miss (k + 1) (mw.val.setCell ⟨b, 4, none⟩ (.int .i64 ((t.loose : Int) + 1))) ∧ KeepO b B1 B2 w (mw.val.setCell ⟨b, 4, none⟩ (.int .i64 ((t.loose : Int) + 1)))) := ⟨hI2.miss4, HK2.out.trans (hI2.keep 4 _)⟩
  clear hI2 m0 m1 m2 mc hne0 hO' hO2 hO3 hO hA
  generalize mw.val = w2 at *
  go_wp2_with fail
  refine bodyPost_ret (results_none rfl _ _ _) rfl ?_
  exact ⟨rfl, HQ.out⟩
set_option maxRecDepth 100000 in
set_option maxHeartbeats 8000000 in
theorem tie_put (b B1 B2 : Nat) (lv : Value) (w0 w : World) (t : Ti) (k : Nat) (x : ByteArray) (a : Nat) (n : Sp) (hN : t.named x = some n) (hO : ¬ n.at_ < t.root) (hR : ahead n (a : Int) = true) (hI : TsI b B1 B2 lv w0 t k w) (hx : x.size ≤ 1073741824) (ha : a ≤ 1048576) (hk : k ≤ 1048576) :
    Calls Try.prog 46 #[.pointer (some ⟨b, 0, none⟩), .string x, .int .i64 (a : Int)] w fun e w' => e = .returned (.tuple #[]) ∧ TsI b B1 B2 lv w0 { t with defs := putFn t.defs (a : Int) n.at_ } (k + 1) w' ∧ KeepO b B1 B2 w w' := by
  obtain ⟨n1, hn1, hM⟩ := hI.nm
  have hlook := hM.look_yes nkeyed Try.underlying59 (zeroSp w) (nkey_mk hx) hN
  unfold Sp.val at hlook
  obtain ⟨W, hW⟩ : ∃ W, w.alloc (.cells #[.int .i64 (n.at_ : Int), .int .i64 n.end_, .int .i64 n.up] 64) = W := ⟨_, rfl⟩
  have hBW : Below w.heap.size w W := by rw [← hW]; exact al_belowN w _
  obtain ⟨u0, u1, u2⟩ : W.cell? ⟨w.heap.size, 0, none⟩ = some (.int .i64 (n.at_ : Int)) ∧ W.cell? ⟨w.heap.size, 1, none⟩ = some (.int .i64 n.end_) ∧ W.cell? ⟨w.heap.size, 2, none⟩ = some (.int .i64 n.up) := by rw [← hW]; exact al_new3
  have hIW := hI.stays hBW
  have HI : Hid (TsI b B1 B2 lv w0 t k W) := hIW
  have HK : Hid (KeepO b B1 B2 w W) := KeepO.of hBW
  have hsz : w.heap.size < W.heap.size := by rw [← hW]; simp
  have hm : ∀ (m : Bw W) (q j : Nat), q < W.heap.size → m.val.cell? ⟨q, j, none⟩ = W.cell? ⟨q, j, none⟩ := fun m q j hq => m.ok.cell hq
  have m0 := fun m : Bw W => (hm m w.heap.size 0 hsz).trans u0
  have m1 := fun m : Bw W => (hm m w.heap.size 1 hsz).trans u1
  have m2 := fun m : Bw W => (hm m w.heap.size 2 hsz).trans u2
  have mc := fun m : Bw W => (hm m b 1 hIW.at_.lt).trans hIW.at_.c1
  have hne0 := Bw.some W
  have c2 := hI.at_.c2
  have HW : Hid (w.alloc (.cells #[.int .i64 (n.at_ : Int), .int .i64 n.end_, .int .i64 n.up] 64) = W) := hW
  have HAK : Hid (a ≤ 1048576 ∧ k ≤ 1048576) := ⟨ha, hk⟩
  have hlk : (t.loose : Int) ≤ 1048576 := by have := hI.ls; omega
  have hA := Bw.calls (w := W) (fun w' _ => ahead_any n (a : Int) w')
  rw [hR] at hA
  unfold Sp.val at hA
  have hO' : decide ((n.at_ : Int) < (t.root : Int)) = false := decide_eq_false (by omega)
  have hO2 : ¬ (n.at_ : Int) < (t.root : Int) := by omega
  have hO3 : decide (n.at_ < t.root) = false := decide_eq_false hO
  clear hR
  clear hM hn1 hW hBW hIW hm u0 u1 u2 hsz hI hx ha hk hN
  go_enter Try.func46, Try.ntmps46
  go_wp2_with fail
  rw [HW.out]
  clear hlook c2 HW
  go_wp2_with fail
  refine wp_region_bw (w0 := W) (by kernel_rfl) (by kernel_rfl) (Below.refl _ _) ?_
  repeat (go_big_quiet_step ((go_at_call 55; exact hA _)))
  refine wpQuiet_nil ?_
  rintro _ ⟨mw, rfl⟩
  have hI2 := HI.out.stays mw.ok
  have HK2 : Hid (KeepO b B1 B2 w mw.val) := HK.out.trans (KeepO.of mw.ok)
  have d0 := m0 mw
  have d3 := hI2.at_.c3
  obtain ⟨w3, hup, hI3, hK3⟩ := (hI2.stays ((Below.refl _ mw.val).drew)).putD a n.at_ (by have := HAK.out; omega) (by have := HAK.out; omega)
  have HQ : Hid (TsI b B1 B2 lv w0 { t with defs := putFn t.defs (a : Int) n.at_ } (k + 1) w3 ∧ KeepO b B1 B2 w w3) := ⟨hI3, (HK2.out.trans (KeepO.of ((Below.refl _ mw.val).drew))).trans hK3⟩
  clear hI2 m0 m1 m2 mc hne0 hA hI3 hK3
  generalize mw.val = w2 at *
  go_wp2_with fail
  go_region
  all_goals (
    clear hup d0 d3
    go_wp2_with fail
    go_end0
    exact ⟨rfl, HQ.out⟩)
theorem tie_any (b B1 B2 : Nat) (lv : Value) (w0 w : World) (t : Ti) (k : Nat) (x : ByteArray) (a : Nat) (hI : TsI b B1 B2 lv w0 t k w) (hx : x.size ≤ 1073741824) (ha : a ≤ 1048576) (hk : k ≤ 1048576) :
    Calls Try.prog 46 #[.pointer (some ⟨b, 0, none⟩), .string x, .int .i64 (a : Int)] w fun e w' => e = .returned (.tuple #[]) ∧ TsI b B1 B2 lv w0 (t.tie x a) (k + 1) w' ∧ KeepO b B1 B2 w w' := by
  unfold Ti.tie
  cases hN : t.named x with
  | none => exact tie_none b B1 B2 lv w0 w t k x a hN hI hx ha hk
  | some n =>
    simp only []
    by_cases hO : n.at_ < t.root
    · rw [if_pos (.inl hO)]
      exact tie_old b B1 B2 lv w0 w t k x a n hN hO hI hx ha hk
    · cases hR : ahead n (a : Int) with
      | false =>
        rw [if_pos (.inr rfl)]
        exact tie_open b B1 B2 lv w0 w t k x a n hN hO hR hI hx ha hk
      | true =>
        rw [if_neg (fun h => h.elim hO (fun h => by cases h))]
        exact tie_put b B1 B2 lv w0 w t k x a n hN hO hR hI hx ha hk
end Go.Proofs.Ytmbbmibkjnlkkaa
/- impl's ties: take, a case. -/
namespace Go.Proofs.Ytmbbmibkjnlkkaa
open Go.ChangeShapes Go.WideShapes Go.ChangeAt Go.RowKit Go.Maps
set_option maxRecDepth 100000 in
set_option maxHeartbeats 8000000 in
theorem take_no_alias (b B1 B2 : Nat) (lv : Value) (w0 w : World) (t : Ti) (k : Nat) (es : List Ev) (n : Sp) (e : Ev) (hS : SlE w0 lv es) (hl : totE es + es.length ≤ 1048576) (he : es[n.at_]? = some e) (hI : TsI b B1 B2 lv w0 t k w) (hk : k ≤ 1048576) (hu : n.up ≠ -1) (h6 : e.kind = 6) :
    Calls Try.prog 34 #[.pointer (some ⟨b, 0, none⟩), n.val] w fun r w' => r = .returned (.tuple #[]) ∧ TsI b B1 B2 lv w0 (Ti.tie t e.text n.at_) (k + 1) w' ∧ KeepO b B1 B2 w w' := by
  obtain ⟨W, hW⟩ : ∃ W, w.alloc (.cells #[.int .i64 (n.at_ : Int), .int .i64 n.end_, .int .i64 n.up] 64) = W := ⟨_, rfl⟩
  have hBW : Below w.heap.size w W := by rw [← hW]; exact al_belowN w _
  have hnew : W.heap[w.heap.size]? = some (.cells #[.int .i64 (n.at_ : Int), .int .i64 n.end_, .int .i64 n.up] 64 (0, 0)) := by rw [← hW]; exact heap_alloc_new w _
  have u0 : W.cell? ⟨w.heap.size, 0, none⟩ = some (.int .i64 (n.at_ : Int)) := Lib.cell_of_heap hnew 0
  have u2 : W.cell? ⟨w.heap.size, 2, none⟩ = some (.int .i64 n.up) := Lib.cell_of_heap hnew 2
  have hIW := hI.stays hBW
  have nb : w.heap.size ≠ b := by have := hI.at_.lt; omega
  have nb' : b ≠ w.heap.size := Ne.symm nb
  have HB0 : Hid (w0.heap.size ≤ w.heap.size) := hI.below.size
  have HW : Hid (w.alloc (.cells #[.int .i64 (n.at_ : Int), .int .i64 n.end_, .int .i64 n.up] 64) = W) := hW
  have tu : (n.up == -1) = false := by rw [beq_eq_false_iff_ne]; exact hu
  obtain ⟨V, hV⟩ : ∃ V, W = V := ⟨_, rfl⟩
  have v0 : V.cell? ⟨w.heap.size, 0, none⟩ = some (.int .i64 (n.at_ : Int)) := by rw [← hV]; exact u0
  have HV1 : Hid (V.cell? ⟨w.heap.size, 1, none⟩ = some (.int .i64 n.end_)) := by show _ = _; rw [← hV]; exact Lib.cell_of_heap hnew 1
  have HV2 : Hid (V.cell? ⟨w.heap.size, 2, none⟩ = some (.int .i64 n.up)) := by show _ = _; rw [← hV]; exact u2
  have HVS : Hid (w.heap.size < V.heap.size) := by show _ < _; rw [← hV, ← hW]; simp
  have HIV : Hid (TsI b B1 B2 lv w0 t k V) := by rw [← hV]; exact hIW
  have HKV : Hid (KeepO b B1 B2 w V) := by rw [← hV]; exact KeepO.of hBW
  have HVV : Hid (W = V) := hV
  clear hV
  have htot := totE_mem (List.mem_of_getElem? he)
  have HTX : Hid (e.text.size ≤ 1073741824 ∧ e.anchor.size ≤ 1073741824 ∧ n.at_ ≤ 1048576 ∧ k ≤ 1048576) := by
    have := (List.getElem?_eq_some_iff.1 he).1
    unfold Ev.tot at htot
    exact ⟨by omega, by omega, by omega, hk⟩
  obtain ⟨la, lc, rfl⟩ := hS.sl
  obtain ⟨bb, off, rfl, hbb, ⟨c0, c1, c2, c3, c4, c5, c6, c7⟩⟩ := hS.at HIV.out.below he
  have hlt' : (n.at_ : Int) < (es.length : Int) := by have := (List.getElem?_eq_some_iff.1 he).1; omega
  have hle : (es.length : Int) ≤ 1048576 := by omega
  have d0 := HIV.out.at_.c0
  unfold Sp.val
  obtain ⟨kind, style, flag, text, anchor, tag, at_, code⟩ := e
  simp only at c0 c1 c2 c3 c4 c5 c6 c7 HTX h6
  subst h6
  obtain ⟨X, hX⟩ : ∃ X, (V.alloc (.cells #[.int .i64 6, .int .i64 style, .bool flag, .string text, .string anchor, .string tag, .int .i64 at_, .int .i64 code] 38)).drew = X := ⟨_, rfl⟩
  have hBX : Below V.heap.size V X := by rw [← hX]; exact (al_belowN V _).drew
  have hnX : X.heap[V.heap.size]? = some (.cells #[.int .i64 6, .int .i64 style, .bool flag, .string text, .string anchor, .string tag, .int .i64 at_, .int .i64 code] 38 (0, 0)) := by rw [← hX]; exact heap_alloc_new V _
  obtain ⟨x0, x1, x2, x3, x4, x5, x6, x7⟩ := ev_at hnX
  have y0 : X.cell? ⟨w.heap.size, 0, none⟩ = some (.int .i64 (n.at_ : Int)) := by rw [hBX.cell (by have := HVS.out; omega)]; exact v0
  have y1 : X.cell? ⟨w.heap.size, 1, none⟩ = some (.int .i64 n.end_) := by rw [hBX.cell (by have := HVS.out; omega)]; exact HV1.out
  have y2 : X.cell? ⟨w.heap.size, 2, none⟩ = some (.int .i64 n.up) := by rw [hBX.cell (by have := HVS.out; omega)]; exact HV2.out
  have HIX : Hid (TsI b B1 B2 (.slice (some ⟨bb, off, none⟩) es.length lc) w0 t k X) := HIV.out.stays hBX
  have HKX : Hid (KeepO b B1 B2 w X) := HKV.out.trans (KeepO.of hBX)
  have HX : Hid ((V.alloc (.cells #[.int .i64 6, .int .i64 style, .bool flag, .string text, .string anchor, .string tag, .int .i64 at_, .int .i64 code] 38)).drew = X) := hX
  obtain ⟨Z, hZ⟩ : ∃ Z, V.alloc (.cells #[.int .i64 0, .int .i64 0, .bool false, .string ⟨#[]⟩, .string ⟨#[]⟩, .string ⟨#[]⟩, .int .i64 0, .int .i64 0] 38) = Z := ⟨_, rfl⟩
  have hBZ : Below V.heap.size V Z := by rw [← hZ]; exact al_belowN V _
  have hbV : bb < V.heap.size := Nat.lt_of_lt_of_le hbb HIV.out.below.size
  have z0 : Z.cell? _ = _ := (hBZ.cell hbV).trans c0
  have z1 : Z.cell? _ = _ := (hBZ.cell hbV).trans c1
  have z2 : Z.cell? _ = _ := (hBZ.cell hbV).trans c2
  have z3 : Z.cell? _ = _ := (hBZ.cell hbV).trans c3
  have z4 : Z.cell? _ = _ := (hBZ.cell hbV).trans c4
  have z5 : Z.cell? _ = _ := (hBZ.cell hbV).trans c5
  have z6 : Z.cell? _ = _ := (hBZ.cell hbV).trans c6
  have z7 : Z.cell? _ = _ := (hBZ.cell hbV).trans c7
  have zd : Z.cell? _ = _ := (hBZ.cell HIV.out.at_.lt).trans d0
  have zv : Z.cell? _ = _ := (hBZ.cell HVS.out).trans v0
  rw [← hZ] at z0 z1 z2 z3 z4 z5 z6 z7 zd zv
  clear hS hl he hI hk hW hBW hnew hIW htot hbb hX hBX hnX HV1 HV2 hZ hBZ hbV
  go_enter Try.func34, Try.ntmps34
  go_wp2_with fail
  rw [HW.out]
  go_wp2_with fail
  rw [HVV.out]
  clear u0 u2 HVV HW

  go_region
  all_goals (
    rw [HX.out]
    clear c0 c1 c2 c3 c4 c5 c6 c7 d0 v0 HX z0 z1 z2 z3 z4 z5 z6 z7 zd zv
    have cT := tie_any b B1 B2 _ w0 X _ k text n.at_ HIX.out HTX.out.1 HTX.out.2.2.1 HTX.out.2.2.2
    go_wp2_with fail
    refine cT.mono ?_
    rintro r w2 ⟨rfl, h2, k2⟩
    have HQ : Hid (TsI b B1 B2 (.slice (some ⟨bb, off, none⟩) es.length lc) w0 (Ti.tie t text n.at_) (k + 1) w2 ∧ KeepO b B1 B2 w w2) := ⟨h2, HKX.out.trans k2⟩
    clear cT h2 k2 x0 x1 x2 x3 x4 x5 x6 x7 y0 y1 y2
    go_wp2_with fail
    go_end0
    exact ⟨rfl, HQ.out⟩)
end Go.Proofs.Ytmbbmibkjnlkkaa
/- impl's ties: take, a case. -/
namespace Go.Proofs.Ytmbbmibkjnlkkaa
open Go.ChangeShapes Go.WideShapes Go.ChangeAt Go.RowKit Go.Maps
set_option maxRecDepth 100000 in
set_option maxHeartbeats 8000000 in
theorem take_no_name (b B1 B2 : Nat) (lv : Value) (w0 w : World) (t : Ti) (k : Nat) (es : List Ev) (n : Sp) (e : Ev) (hS : SlE w0 lv es) (hl : totE es + es.length ≤ 1048576) (he : es[n.at_]? = some e) (hI : TsI b B1 B2 lv w0 t k w) (hk : k ≤ 1048576) (hu : n.up ≠ -1) (h6 : ¬ e.kind = 6) (ha : e.anchor.toList ≠ []) :
    Calls Try.prog 34 #[.pointer (some ⟨b, 0, none⟩), n.val] w fun r w' => r = .returned (.tuple #[]) ∧ TsI b B1 B2 lv w0 (Ti.name t e.anchor n) (k + 1) w' ∧ KeepO b B1 B2 w w' := by
  obtain ⟨W, hW⟩ : ∃ W, w.alloc (.cells #[.int .i64 (n.at_ : Int), .int .i64 n.end_, .int .i64 n.up] 64) = W := ⟨_, rfl⟩
  have hBW : Below w.heap.size w W := by rw [← hW]; exact al_belowN w _
  have hnew : W.heap[w.heap.size]? = some (.cells #[.int .i64 (n.at_ : Int), .int .i64 n.end_, .int .i64 n.up] 64 (0, 0)) := by rw [← hW]; exact heap_alloc_new w _
  have u0 : W.cell? ⟨w.heap.size, 0, none⟩ = some (.int .i64 (n.at_ : Int)) := Lib.cell_of_heap hnew 0
  have u2 : W.cell? ⟨w.heap.size, 2, none⟩ = some (.int .i64 n.up) := Lib.cell_of_heap hnew 2
  have hIW := hI.stays hBW
  have nb : w.heap.size ≠ b := by have := hI.at_.lt; omega
  have nb' : b ≠ w.heap.size := Ne.symm nb
  have HB0 : Hid (w0.heap.size ≤ w.heap.size) := hI.below.size
  have HW : Hid (w.alloc (.cells #[.int .i64 (n.at_ : Int), .int .i64 n.end_, .int .i64 n.up] 64) = W) := hW
  have tu : (n.up == -1) = false := by rw [beq_eq_false_iff_ne]; exact hu
  obtain ⟨V, hV⟩ : ∃ V, W = V := ⟨_, rfl⟩
  have v0 : V.cell? ⟨w.heap.size, 0, none⟩ = some (.int .i64 (n.at_ : Int)) := by rw [← hV]; exact u0
  have HV1 : Hid (V.cell? ⟨w.heap.size, 1, none⟩ = some (.int .i64 n.end_)) := by show _ = _; rw [← hV]; exact Lib.cell_of_heap hnew 1
  have HV2 : Hid (V.cell? ⟨w.heap.size, 2, none⟩ = some (.int .i64 n.up)) := by show _ = _; rw [← hV]; exact u2
  have HVS : Hid (w.heap.size < V.heap.size) := by show _ < _; rw [← hV, ← hW]; simp
  have HIV : Hid (TsI b B1 B2 lv w0 t k V) := by rw [← hV]; exact hIW
  have HKV : Hid (KeepO b B1 B2 w V) := by rw [← hV]; exact KeepO.of hBW
  have HVV : Hid (W = V) := hV
  clear hV
  have htot := totE_mem (List.mem_of_getElem? he)
  have HTX : Hid (e.text.size ≤ 1073741824 ∧ e.anchor.size ≤ 1073741824 ∧ n.at_ ≤ 1048576 ∧ k ≤ 1048576) := by
    have := (List.getElem?_eq_some_iff.1 he).1
    unfold Ev.tot at htot
    exact ⟨by omega, by omega, by omega, hk⟩
  obtain ⟨la, lc, rfl⟩ := hS.sl
  obtain ⟨bb, off, rfl, hbb, ⟨c0, c1, c2, c3, c4, c5, c6, c7⟩⟩ := hS.at HIV.out.below he
  have hlt' : (n.at_ : Int) < (es.length : Int) := by have := (List.getElem?_eq_some_iff.1 he).1; omega
  have hle : (es.length : Int) ≤ 1048576 := by omega
  have d0 := HIV.out.at_.c0
  unfold Sp.val
  obtain ⟨kind, style, flag, text, anchor, tag, at_, code⟩ := e
  simp only at c0 c1 c2 c3 c4 c5 c6 c7 HTX h6 ha
  have t6 : (kind == 6) = false := by rw [beq_eq_false_iff_ne]; exact h6
  have hie : anchor.toList.isEmpty = false := by cases hh : anchor.toList with | nil => exact absurd hh ha | cons _ _ => rfl
  have hne : (anchor.toList == []) = false := by rw [beq_eq_false_iff_ne]; exact ha
  obtain ⟨X, hX⟩ : ∃ X, (V.alloc (.cells #[.int .i64 kind, .int .i64 style, .bool flag, .string text, .string anchor, .string tag, .int .i64 at_, .int .i64 code] 38)).drew = X := ⟨_, rfl⟩
  have hBX : Below V.heap.size V X := by rw [← hX]; exact (al_belowN V _).drew
  have hnX : X.heap[V.heap.size]? = some (.cells #[.int .i64 kind, .int .i64 style, .bool flag, .string text, .string anchor, .string tag, .int .i64 at_, .int .i64 code] 38 (0, 0)) := by rw [← hX]; exact heap_alloc_new V _
  obtain ⟨x0, x1, x2, x3, x4, x5, x6, x7⟩ := ev_at hnX
  have y0 : X.cell? ⟨w.heap.size, 0, none⟩ = some (.int .i64 (n.at_ : Int)) := by rw [hBX.cell (by have := HVS.out; omega)]; exact v0
  have y1 : X.cell? ⟨w.heap.size, 1, none⟩ = some (.int .i64 n.end_) := by rw [hBX.cell (by have := HVS.out; omega)]; exact HV1.out
  have y2 : X.cell? ⟨w.heap.size, 2, none⟩ = some (.int .i64 n.up) := by rw [hBX.cell (by have := HVS.out; omega)]; exact HV2.out
  have HIX : Hid (TsI b B1 B2 (.slice (some ⟨bb, off, none⟩) es.length lc) w0 t k X) := HIV.out.stays hBX
  have HKX : Hid (KeepO b B1 B2 w X) := HKV.out.trans (KeepO.of hBX)
  have HX : Hid ((V.alloc (.cells #[.int .i64 kind, .int .i64 style, .bool flag, .string text, .string anchor, .string tag, .int .i64 at_, .int .i64 code] 38)).drew = X) := hX
  obtain ⟨Z, hZ⟩ : ∃ Z, V.alloc (.cells #[.int .i64 0, .int .i64 0, .bool false, .string ⟨#[]⟩, .string ⟨#[]⟩, .string ⟨#[]⟩, .int .i64 0, .int .i64 0] 38) = Z := ⟨_, rfl⟩
  have hBZ : Below V.heap.size V Z := by rw [← hZ]; exact al_belowN V _
  have hbV : bb < V.heap.size := Nat.lt_of_lt_of_le hbb HIV.out.below.size
  have z0 : Z.cell? _ = _ := (hBZ.cell hbV).trans c0
  have z1 : Z.cell? _ = _ := (hBZ.cell hbV).trans c1
  have z2 : Z.cell? _ = _ := (hBZ.cell hbV).trans c2
  have z3 : Z.cell? _ = _ := (hBZ.cell hbV).trans c3
  have z4 : Z.cell? _ = _ := (hBZ.cell hbV).trans c4
  have z5 : Z.cell? _ = _ := (hBZ.cell hbV).trans c5
  have z6 : Z.cell? _ = _ := (hBZ.cell hbV).trans c6
  have z7 : Z.cell? _ = _ := (hBZ.cell hbV).trans c7
  have zd : Z.cell? _ = _ := (hBZ.cell HIV.out.at_.lt).trans d0
  have zv : Z.cell? _ = _ := (hBZ.cell HVS.out).trans v0
  rw [← hZ] at z0 z1 z2 z3 z4 z5 z6 z7 zd zv
  clear hS hl he hI hk hW hBW hnew hIW htot hbb hX hBX hnX HV1 HV2 hZ hBZ hbV
  go_enter Try.func34, Try.ntmps34
  go_wp2_with fail
  rw [HW.out]
  go_wp2_with fail
  rw [HVV.out]
  clear u0 u2 HVV HW

  go_region
  all_goals (
    rw [HX.out]
    clear c0 c1 c2 c3 c4 c5 c6 c7 d0 v0 HX z0 z1 z2 z3 z4 z5 z6 z7 zd zv
    obtain ⟨w3, hup, h3, k3⟩ := (HIX.out.stays ((Below.refl X.heap.size X).drew)).putN anchor n HTX.out.2.1 (by have := HTX.out.2.2.2; omega)
    unfold Sp.val at hup
    have HQ : Hid (TsI b B1 B2 (.slice (some ⟨bb, off, none⟩) es.length lc) w0 (Ti.name t anchor n) (k + 1) w3 ∧ KeepO b B1 B2 w w3) := ⟨h3, (HKX.out.trans (KeepO.of ((Below.refl X.heap.size X).drew))).trans k3⟩
    have zz : X.cell? ⟨b, 2, none⟩ = some (.map (some B1)) := HIX.out.at_.c2
    clear h3 k3
    go_wp2_with fail
    go_region
    all_goals (
      clear hup zz x0 x1 x2 x3 x4 x5 x6 x7 y0 y1 y2
      go_wp2_with fail
      go_end0
      exact ⟨rfl, HQ.out⟩))
end Go.Proofs.Ytmbbmibkjnlkkaa
/- impl's ties: take, a case. -/
namespace Go.Proofs.Ytmbbmibkjnlkkaa
open Go.ChangeShapes Go.WideShapes Go.ChangeAt Go.RowKit Go.Maps
set_option maxRecDepth 100000 in
set_option maxHeartbeats 8000000 in
theorem take_no_bare (b B1 B2 : Nat) (lv : Value) (w0 w : World) (t : Ti) (k : Nat) (es : List Ev) (n : Sp) (e : Ev) (hS : SlE w0 lv es) (hl : totE es + es.length ≤ 1048576) (he : es[n.at_]? = some e) (hI : TsI b B1 B2 lv w0 t k w) (hk : k ≤ 1048576) (hu : n.up ≠ -1) (h6 : ¬ e.kind = 6) (ha : e.anchor.toList = []) :
    Calls Try.prog 34 #[.pointer (some ⟨b, 0, none⟩), n.val] w fun r w' => r = .returned (.tuple #[]) ∧ TsI b B1 B2 lv w0 t (k + 1) w' ∧ KeepO b B1 B2 w w' := by
  obtain ⟨W, hW⟩ : ∃ W, w.alloc (.cells #[.int .i64 (n.at_ : Int), .int .i64 n.end_, .int .i64 n.up] 64) = W := ⟨_, rfl⟩
  have hBW : Below w.heap.size w W := by rw [← hW]; exact al_belowN w _
  have hnew : W.heap[w.heap.size]? = some (.cells #[.int .i64 (n.at_ : Int), .int .i64 n.end_, .int .i64 n.up] 64 (0, 0)) := by rw [← hW]; exact heap_alloc_new w _
  have u0 : W.cell? ⟨w.heap.size, 0, none⟩ = some (.int .i64 (n.at_ : Int)) := Lib.cell_of_heap hnew 0
  have u2 : W.cell? ⟨w.heap.size, 2, none⟩ = some (.int .i64 n.up) := Lib.cell_of_heap hnew 2
  have hIW := hI.stays hBW
  have nb : w.heap.size ≠ b := by have := hI.at_.lt; omega
  have nb' : b ≠ w.heap.size := Ne.symm nb
  have HB0 : Hid (w0.heap.size ≤ w.heap.size) := hI.below.size
  have HW : Hid (w.alloc (.cells #[.int .i64 (n.at_ : Int), .int .i64 n.end_, .int .i64 n.up] 64) = W) := hW
  have tu : (n.up == -1) = false := by rw [beq_eq_false_iff_ne]; exact hu
  obtain ⟨V, hV⟩ : ∃ V, W = V := ⟨_, rfl⟩
  have v0 : V.cell? ⟨w.heap.size, 0, none⟩ = some (.int .i64 (n.at_ : Int)) := by rw [← hV]; exact u0
  have HV1 : Hid (V.cell? ⟨w.heap.size, 1, none⟩ = some (.int .i64 n.end_)) := by show _ = _; rw [← hV]; exact Lib.cell_of_heap hnew 1
  have HV2 : Hid (V.cell? ⟨w.heap.size, 2, none⟩ = some (.int .i64 n.up)) := by show _ = _; rw [← hV]; exact u2
  have HVS : Hid (w.heap.size < V.heap.size) := by show _ < _; rw [← hV, ← hW]; simp
  have HIV : Hid (TsI b B1 B2 lv w0 t k V) := by rw [← hV]; exact hIW
  have HKV : Hid (KeepO b B1 B2 w V) := by rw [← hV]; exact KeepO.of hBW
  have HVV : Hid (W = V) := hV
  clear hV
  have htot := totE_mem (List.mem_of_getElem? he)
  have HTX : Hid (e.text.size ≤ 1073741824 ∧ e.anchor.size ≤ 1073741824 ∧ n.at_ ≤ 1048576 ∧ k ≤ 1048576) := by
    have := (List.getElem?_eq_some_iff.1 he).1
    unfold Ev.tot at htot
    exact ⟨by omega, by omega, by omega, hk⟩
  obtain ⟨la, lc, rfl⟩ := hS.sl
  obtain ⟨bb, off, rfl, hbb, ⟨c0, c1, c2, c3, c4, c5, c6, c7⟩⟩ := hS.at HIV.out.below he
  have hlt' : (n.at_ : Int) < (es.length : Int) := by have := (List.getElem?_eq_some_iff.1 he).1; omega
  have hle : (es.length : Int) ≤ 1048576 := by omega
  have d0 := HIV.out.at_.c0
  unfold Sp.val
  obtain ⟨kind, style, flag, text, anchor, tag, at_, code⟩ := e
  simp only at c0 c1 c2 c3 c4 c5 c6 c7 HTX h6 ha
  have t6 : (kind == 6) = false := by rw [beq_eq_false_iff_ne]; exact h6
  obtain ⟨X, hX⟩ : ∃ X, (V.alloc (.cells #[.int .i64 kind, .int .i64 style, .bool flag, .string text, .string anchor, .string tag, .int .i64 at_, .int .i64 code] 38)).drew = X := ⟨_, rfl⟩
  have hBX : Below V.heap.size V X := by rw [← hX]; exact (al_belowN V _).drew
  have hnX : X.heap[V.heap.size]? = some (.cells #[.int .i64 kind, .int .i64 style, .bool flag, .string text, .string anchor, .string tag, .int .i64 at_, .int .i64 code] 38 (0, 0)) := by rw [← hX]; exact heap_alloc_new V _
  obtain ⟨x0, x1, x2, x3, x4, x5, x6, x7⟩ := ev_at hnX
  have y0 : X.cell? ⟨w.heap.size, 0, none⟩ = some (.int .i64 (n.at_ : Int)) := by rw [hBX.cell (by have := HVS.out; omega)]; exact v0
  have y1 : X.cell? ⟨w.heap.size, 1, none⟩ = some (.int .i64 n.end_) := by rw [hBX.cell (by have := HVS.out; omega)]; exact HV1.out
  have y2 : X.cell? ⟨w.heap.size, 2, none⟩ = some (.int .i64 n.up) := by rw [hBX.cell (by have := HVS.out; omega)]; exact HV2.out
  have HIX : Hid (TsI b B1 B2 (.slice (some ⟨bb, off, none⟩) es.length lc) w0 t k X) := HIV.out.stays hBX
  have HKX : Hid (KeepO b B1 B2 w X) := HKV.out.trans (KeepO.of hBX)
  have HX : Hid ((V.alloc (.cells #[.int .i64 kind, .int .i64 style, .bool flag, .string text, .string anchor, .string tag, .int .i64 at_, .int .i64 code] 38)).drew = X) := hX
  obtain ⟨Z, hZ⟩ : ∃ Z, V.alloc (.cells #[.int .i64 0, .int .i64 0, .bool false, .string ⟨#[]⟩, .string ⟨#[]⟩, .string ⟨#[]⟩, .int .i64 0, .int .i64 0] 38) = Z := ⟨_, rfl⟩
  have hBZ : Below V.heap.size V Z := by rw [← hZ]; exact al_belowN V _
  have hbV : bb < V.heap.size := Nat.lt_of_lt_of_le hbb HIV.out.below.size
  have z0 : Z.cell? _ = _ := (hBZ.cell hbV).trans c0
  have z1 : Z.cell? _ = _ := (hBZ.cell hbV).trans c1
  have z2 : Z.cell? _ = _ := (hBZ.cell hbV).trans c2
  have z3 : Z.cell? _ = _ := (hBZ.cell hbV).trans c3
  have z4 : Z.cell? _ = _ := (hBZ.cell hbV).trans c4
  have z5 : Z.cell? _ = _ := (hBZ.cell hbV).trans c5
  have z6 : Z.cell? _ = _ := (hBZ.cell hbV).trans c6
  have z7 : Z.cell? _ = _ := (hBZ.cell hbV).trans c7
  have zd : Z.cell? _ = _ := (hBZ.cell HIV.out.at_.lt).trans d0
  have zv : Z.cell? _ = _ := (hBZ.cell HVS.out).trans v0
  rw [← hZ] at z0 z1 z2 z3 z4 z5 z6 z7 zd zv
  clear hS hl he hI hk hW hBW hnew hIW htot hbb hX hBX hnX HV1 HV2 hZ hBZ hbV
  go_enter Try.func34, Try.ntmps34
  go_wp2_with fail
  rw [HW.out]
  go_wp2_with fail
  rw [HVV.out]
  clear u0 u2 HVV HW

  go_region
  all_goals (
    rw [HX.out]
    clear c0 c1 c2 c3 c4 c5 c6 c7 d0 v0 HX z0 z1 z2 z3 z4 z5 z6 z7 zd zv
    have HQ : Hid (TsI b B1 B2 (.slice (some ⟨bb, off, none⟩) es.length lc) w0 t (k + 1) X ∧ KeepO b B1 B2 w X) := ⟨HIX.out.more, HKX.out⟩
    go_wp2_with fail
    go_end0
    exact ⟨rfl, HQ.out⟩)
end Go.Proofs.Ytmbbmibkjnlkkaa
