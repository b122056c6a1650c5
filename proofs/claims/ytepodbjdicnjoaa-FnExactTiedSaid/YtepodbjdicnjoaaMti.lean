/- Several texts in one: Iti Itj. -/
import Derived.Test.YtepodbjdicnjoaaIfn
import Derived.Test.YtepodbjdicnjoaaPnj
import Derived.Test.YtepodbjdicnjoaaMpg
import Derived.Laws.EntriesVeiled
/- impl's ties in memory; the contracts of tie and take. -/
namespace Go.Proofs.Ytepodbjdicnjoaa
open Go.ChangeShapes Go.WideShapes Go.ChangeAt Go.RowKit Go.Maps
def nkey (x : ByteArray) : Lit := .string x.data.toList
theorem nkey_fn : KeyFn nkey := by
  refine ⟨fun a b h e => ?_, fun _ => trivial⟩
  unfold nkey at e
  injection e with e
  exact h (ba_ext e)
def dkey (x : Int) : Lit := .int .i64 x
theorem dkey_fn : KeyFn dkey := by
  refine ⟨fun a b h e => ?_, fun _ => trivial⟩
  unfold dkey at e
  injection e with _ e
  exact h e
def natV (n : Nat) : Value := .int .i64 (n : Int)
theorem nkeyed : Keyed Try.prog 9 := string_keyed Try.underlying9
theorem dkeyed : Keyed Try.prog 3 := int_keyed Try.underlying3
theorem nkey_mk {x : ByteArray} (h : x.size ≤ 1073741824) : keyOf Try.prog 9 (.string x) = some (nkey x) := WideMaps.keyOf_string_mk Try.underlying9 (by unfold maxLen; omega)
theorem dkey_mk {x : Int} (h : (Lit.int .i64 x).wf = true) : keyOf Try.prog 3 (.int .i64 x) = some (dkey x) := keyOf_int_mk Try.underlying3 h
theorem zeroSp (w : World) : (zeroValue 58).run Try.prog w = .ok (.agg #[.int .i64 0, .int .i64 0, .int .i64 0]) w := Try.zeroValue58 w
theorem zeroNum (w : World) : (zeroValue 3).run Try.prog w = .ok (.int .i64 0) w := Try.zeroValue3 w
/-- The ties at block b. -/
def TsAt (b : Nat) (lv : Value) (root : Nat) (B1 B2 : Nat) (loose : Nat) (w : World) : Prop :=
  w.heap[b]? = some (.cells #[lv, .int .i64 (root : Int), .map (some B1), .map (some B2), .int .i64 (loose : Int)] 54 (0, 0))
section
variable {b : Nat} {lv : Value} {root B1 B2 loose : Nat} {w w' : World}
theorem TsAt.lt (h : TsAt b lv root B1 B2 loose w) : b < w.heap.size := (Array.getElem?_eq_some_iff.1 h).1
theorem TsAt.c0 (h : TsAt b lv root B1 B2 loose w) : w.cell? ⟨b, 0, none⟩ = some lv := by rw [Lib.cell_of_heap h]; rfl
theorem TsAt.c1 (h : TsAt b lv root B1 B2 loose w) : w.cell? ⟨b, 1, none⟩ = some (.int .i64 (root : Int)) := by rw [Lib.cell_of_heap h]; rfl
theorem TsAt.c2 (h : TsAt b lv root B1 B2 loose w) : w.cell? ⟨b, 2, none⟩ = some (.map (some B1)) := by rw [Lib.cell_of_heap h]; rfl
theorem TsAt.c3 (h : TsAt b lv root B1 B2 loose w) : w.cell? ⟨b, 3, none⟩ = some (.map (some B2)) := by rw [Lib.cell_of_heap h]; rfl
theorem TsAt.c4 (h : TsAt b lv root B1 B2 loose w) : w.cell? ⟨b, 4, none⟩ = some (.int .i64 (loose : Int)) := by rw [Lib.cell_of_heap h]; rfl
theorem TsAt.fz (h : TsAt b lv root B1 B2 loose w) (j : Nat) : w.frozen? ⟨b, j, none⟩ = false := Lib.frozen_of_heap h j
theorem TsAt.same (h : TsAt b lv root B1 B2 loose w) (hb : w'.heap[b]? = w.heap[b]?) : TsAt b lv root B1 B2 loose w' := hb.trans h
theorem TsAt.set1 (h : TsAt b lv root B1 B2 loose w) (x : Nat) : TsAt b lv x B1 B2 loose (w.setCell ⟨b, 1, none⟩ (.int .i64 (x : Int))) := by
  unfold TsAt at *
  simp [World.setCell, Array.getElem?_modify, h]
theorem TsAt.set4 (h : TsAt b lv root B1 B2 loose w) (x : Nat) : TsAt b lv root B1 B2 x (w.setCell ⟨b, 4, none⟩ (.int .i64 (x : Int))) := by
  unfold TsAt at *
  simp [World.setCell, Array.getElem?_modify, h]
end
/-- What is tied of k nodes, and that all that lay is as it lay. -/
structure TsI (b B1 B2 : Nat) (lv : Value) (w0 : World) (t : Ti) (k : Nat) (w : World) : Prop where
  at_ : TsAt b lv t.root B1 B2 t.loose w
  nm : ∃ n, n ≤ k ∧ MapM Try.prog 9 nkey Sp.val w B1 n t.named
  df : ∃ n, n ≤ k ∧ MapM Try.prog 3 dkey natV w B2 n t.defs
  ls : t.loose ≤ k
  below : Below w0.heap.size w0 w
  hi : w0.heap.size ≤ b ∧ w0.heap.size ≤ B1 ∧ w0.heap.size ≤ B2
  ne : b ≠ B1 ∧ b ≠ B2 ∧ B1 ≠ B2
section
variable {b B1 B2 : Nat} {lv : Value} {w0 w w' : World} {t : Ti} {k : Nat}
theorem TsI.stays (h : TsI b B1 B2 lv w0 t k w) (hb : Below w.heap.size w w') : TsI b B1 B2 lv w0 t k w' := by
  obtain ⟨n1, h1, h2⟩ := h.nm
  obtain ⟨n2, h3, h4⟩ := h.df
  exact ⟨h.at_.same (hb.block b h.at_.lt), ⟨n1, h1, h2.same (hb.block _ h2.lt)⟩, ⟨n2, h3, h4.same (hb.block _ h4.lt)⟩, h.ls, h.below.trans (hb.mono h.below.size), h.hi, h.ne⟩
theorem TsI.more (h : TsI b B1 B2 lv w0 t k w) : TsI b B1 B2 lv w0 t (k + 1) w := by
  obtain ⟨n1, h1, h2⟩ := h.nm
  obtain ⟨n2, h3, h4⟩ := h.df
  exact ⟨h.at_, ⟨n1, by omega, h2⟩, ⟨n2, by omega, h4⟩, by have := h.ls; omega, h.below, h.hi, h.ne⟩
/-- A cell of the ties' own block is stored. -/
theorem TsI.cell (h : TsI b B1 B2 lv w0 t k w) {j : Nat} {x : Value} {t' : Ti} (ha : TsAt b lv t'.root B1 B2 t'.loose (w.setCell ⟨b, j, none⟩ x)) (hn : t'.named = t.named) (hd : t'.defs = t.defs) {k' : Nat} (hk : k ≤ k') (hl : t'.loose ≤ k') : TsI b B1 B2 lv w0 t' k' (w.setCell ⟨b, j, none⟩ x) := by
  obtain ⟨n1, h1, h2⟩ := h.nm
  obtain ⟨n2, h3, h4⟩ := h.df
  rw [← hn] at h2
  rw [← hd] at h4
  exact ⟨ha, ⟨n1, by omega, h2.same (Below.heap_setCell _ _ _ _ (Ne.symm h.ne.1))⟩, ⟨n2, by omega, h4.same (Below.heap_setCell _ _ _ _ (Ne.symm h.ne.2.1))⟩, hl, h.below.setCell h.hi.1 x, h.hi, h.ne⟩
theorem TsI.keep (h : TsI b B1 B2 lv w0 t k w) (j : Nat) (x : Value) : KeepS w (w.setCell ⟨b, j, none⟩ x) := KeepS.set (fun _ _ _ h => h) h.at_ (by decide) x
theorem keep_map {B : Nat} (hg : w.grownBy w' (some B)) (hm : ∃ es clock, w.heap[B]? = some (.map es clock)) : KeepS w w' := by
  intro k cs fr hk
  rw [hg.block k (Array.getElem?_eq_some_iff.1 hk).1 (fun e => by
    injection e with e
    subst e
    obtain ⟨es, clock, he⟩ := hm
    rw [he] at hk
    cases hk), hk]
theorem below_map {B : Nat} (h : Below w0.heap.size w0 w) (hg : w.grownBy w' (some B)) (hB : w0.heap.size ≤ B) : Below w0.heap.size w0 w' :=
  h.trans ⟨hg.os, hg.tape, hg.output, hg.size, fun j hj => hg.block j (by have := h.size; omega) (by simp; omega)⟩
theorem TsI.putN (h : TsI b B1 B2 lv w0 t k w) (x : ByteArray) (n : Sp) (hx : x.size ≤ 1073741824) (hk : k ≤ 2000000) :
    ∃ w', (Instr.mapUpdate 51 (.map (some B1)) (.string x) n.val).run Try.prog w = .ok () w' ∧ TsI b B1 B2 lv w0 (t.name x n) (k + 1) w' ∧ KeepS w w' := by
  obtain ⟨n1, h1, h2⟩ := h.nm
  obtain ⟨n2, h3, h4⟩ := h.df
  obtain ⟨w', hup, hM, hg⟩ := h2.put nkey_fn nkeyed Try.underlying51 x n (nkey_mk hx) (by unfold maxLen; omega)
  refine ⟨w', hup, ⟨h.at_.same (hg.block b h.at_.lt (by simp; exact h.ne.1)), ⟨n1 + 1, by omega, hM⟩, ⟨n2, by omega, h4.same (hg.block B2 h4.lt (by simp; exact Ne.symm h.ne.2.2))⟩, by have := h.ls; show t.loose ≤ k + 1; omega, below_map h.below hg h.hi.2.1, h.hi, h.ne⟩, keep_map hg h2.isMap⟩
theorem TsI.putD (h : TsI b B1 B2 lv w0 t k w) (a n : Nat) (ha : a ≤ 2000000) (hk : k ≤ 2000000) :
    ∃ w', (Instr.mapUpdate 52 (.map (some B2)) (.int .i64 (a : Int)) (.int .i64 (n : Int))).run Try.prog w = .ok () w' ∧ TsI b B1 B2 lv w0 { t with defs := putFn t.defs (a : Int) n } (k + 1) w' ∧ KeepS w w' := by
  obtain ⟨n1, h1, h2⟩ := h.nm
  obtain ⟨n2, h3, h4⟩ := h.df
  obtain ⟨w', hup, hM, hg⟩ := h4.put dkey_fn dkeyed Try.underlying52 (a : Int) n (dkey_mk (WalkArith.wf_i64 (by omega))) (by unfold maxLen; omega)
  refine ⟨w', hup, ⟨h.at_.same (hg.block b h.at_.lt (by simp; exact h.ne.2.1)), ⟨n1, by omega, h2.same (hg.block B1 h2.lt (by simp; exact h.ne.2.2))⟩, ⟨n2 + 1, by omega, hM⟩, by have := h.ls; show t.loose ≤ k + 1; omega, below_map h.below hg h.hi.2.2, h.hi, h.ne⟩, keep_map hg h4.isMap⟩
end
end Go.Proofs.Ytepodbjdicnjoaa
/- impl's ties: tie. -/
namespace Go.Proofs.Ytepodbjdicnjoaa
open Go.ChangeShapes Go.WideShapes Go.ChangeAt Go.RowKit Go.Maps
theorem Ti.miss_is (t : Ti) : t.miss.root = t.root ∧ t.miss.named = t.named ∧ t.miss.defs = t.defs ∧ t.miss.loose = t.loose + 1 := ⟨rfl, rfl, rfl, rfl⟩
section
variable {b B1 B2 : Nat} {lv : Value} {w0 w : World} {t : Ti} {k : Nat}
theorem TsI.miss4 (h : TsI b B1 B2 lv w0 t k w) : TsI b B1 B2 lv w0 t.miss (k + 1) (w.setCell ⟨b, 4, none⟩ (.int .i64 ((t.loose : Int) + 1))) := by
  have e : ((t.loose : Int) + 1) = ((t.loose + 1 : Nat) : Int) := by omega
  rw [e]
  refine h.cell (t' := t.miss) ?_ rfl rfl (Nat.le_succ k) (by have := h.ls; show t.loose + 1 ≤ k + 1; omega)
  exact h.at_.set4 (t.loose + 1)
end
set_option maxRecDepth 100000 in
set_option maxHeartbeats 8000000 in
theorem tie_none (b B1 B2 : Nat) (lv : Value) (w0 w : World) (t : Ti) (k : Nat) (x : ByteArray) (a : Nat) (hN : t.named x = none) (hI : TsI b B1 B2 lv w0 t k w) (hx : x.size ≤ 1073741824) (ha : a ≤ 1048576) (hk : k ≤ 1048576) :
    Calls Try.prog 53 #[.pointer (some ⟨b, 0, none⟩), .string x, .int .i64 (a : Int)] w fun e w' => e = .returned (.tuple #[]) ∧ TsI b B1 B2 lv w0 t.miss (k + 1) w' ∧ KeepS w w' := by
  obtain ⟨n1, hn1, hM⟩ := hI.nm
  have hlook := hM.look_no nkeyed Try.underlying51 (zeroSp w) (nkey_mk hx) hN
  obtain ⟨W, hW⟩ : ∃ W, w.alloc (.cells #[.int .i64 0, .int .i64 0, .int .i64 0] 58) = W := ⟨_, rfl⟩
  have hBW : Below w.heap.size w W := by rw [← hW]; exact al_belowN w _
  obtain ⟨u0, u1, u2⟩ : W.cell? ⟨w.heap.size, 0, none⟩ = some (.int .i64 0) ∧ W.cell? ⟨w.heap.size, 1, none⟩ = some (.int .i64 0) ∧ W.cell? ⟨w.heap.size, 2, none⟩ = some (.int .i64 0) := by rw [← hW]; exact al_new3
  have hIW := hI.stays hBW
  have HI : Hid (TsI b B1 B2 lv w0 t k W) := hIW
  have HK : Hid (KeepS w W) := KeepS.of hBW
  have hsz : w.heap.size < W.heap.size := by rw [← hW]; simp
  have hm : ∀ (m : Bw W) (q j : Nat), q < W.heap.size → m.val.cell? ⟨q, j, none⟩ = W.cell? ⟨q, j, none⟩ := fun m q j hq => m.ok.cell hq
  have m0 := fun m : Bw W => (hm m w.heap.size 0 hsz).trans u0
  have m1 := fun m : Bw W => (hm m w.heap.size 1 hsz).trans u1
  have m2 := fun m : Bw W => (hm m w.heap.size 2 hsz).trans u2
  have mc := fun m : Bw W => (hm m b 1 hIW.at_.lt).trans hIW.at_.c1
  have hne0 := Bw.some W
  have c2 := hI.at_.c2
  have HW : Hid (w.alloc (.cells #[.int .i64 0, .int .i64 0, .int .i64 0] 58) = W) := hW
  have HAK : Hid (a ≤ 1048576 ∧ k ≤ 1048576) := ⟨ha, hk⟩
  have hlk : (t.loose : Int) ≤ 1048576 := by have := hI.ls; omega
  clear hM hn1 hW hBW hIW hm u0 u1 u2 hsz hI hx ha hk hN
  go_enter Try.func53, Try.ntmps53
  go_wp2_with fail
  rw [HW.out]
  clear hlook c2 HW
  go_wp2_with fail
  refine wp_region_bw (w0 := W) (by kernel_rfl) (by kernel_rfl) (Below.refl _ _) ?_
  repeat (go_big_quiet_step (fail))
  refine wpQuiet_nil ?_
  rintro _ ⟨mw, rfl⟩
  have hI2 := HI.out.stays mw.ok
  have HK2 : Hid (KeepS w mw.val) := HK.out.trans (KeepS.of mw.ok)
  have d4 := hI2.at_.c4
  have f4 := hI2.at_.fz 4
  have HQ : Hid (TsI b B1 B2 lv w0 t.miss (k + 1) (mw.val.setCell ⟨b, 4, none⟩ (.int .i64 ((t.loose : Int) + 1))) ∧ KeepS w (mw.val.setCell ⟨b, 4, none⟩ (.int .i64 ((t.loose : Int) + 1)))) := ⟨hI2.miss4, HK2.out.trans (hI2.keep 4 _)⟩
  clear hI2 m0 m1 m2 mc hne0
  generalize mw.val = w2 at *
  go_wp2_with fail
  refine bodyPost_ret (results_none rfl _ _ _) rfl ?_
  exact ⟨rfl, HQ.out⟩
set_option maxRecDepth 100000 in
set_option maxHeartbeats 8000000 in
theorem tie_old (b B1 B2 : Nat) (lv : Value) (w0 w : World) (t : Ti) (k : Nat) (x : ByteArray) (a : Nat) (n : Sp) (hN : t.named x = some n) (hO : n.at_ < t.root) (hI : TsI b B1 B2 lv w0 t k w) (hx : x.size ≤ 1073741824) (ha : a ≤ 1048576) (hk : k ≤ 1048576) :
    Calls Try.prog 53 #[.pointer (some ⟨b, 0, none⟩), .string x, .int .i64 (a : Int)] w fun e w' => e = .returned (.tuple #[]) ∧ TsI b B1 B2 lv w0 t.miss (k + 1) w' ∧ KeepS w w' := by
  obtain ⟨n1, hn1, hM⟩ := hI.nm
  have hlook := hM.look_yes nkeyed Try.underlying51 (zeroSp w) (nkey_mk hx) hN
  unfold Sp.val at hlook
  obtain ⟨W, hW⟩ : ∃ W, w.alloc (.cells #[.int .i64 (n.at_ : Int), .int .i64 n.end_, .int .i64 n.up] 58) = W := ⟨_, rfl⟩
  have hBW : Below w.heap.size w W := by rw [← hW]; exact al_belowN w _
  obtain ⟨u0, u1, u2⟩ : W.cell? ⟨w.heap.size, 0, none⟩ = some (.int .i64 (n.at_ : Int)) ∧ W.cell? ⟨w.heap.size, 1, none⟩ = some (.int .i64 n.end_) ∧ W.cell? ⟨w.heap.size, 2, none⟩ = some (.int .i64 n.up) := by rw [← hW]; exact al_new3
  have hIW := hI.stays hBW
  have HI : Hid (TsI b B1 B2 lv w0 t k W) := hIW
  have HK : Hid (KeepS w W) := KeepS.of hBW
  have hsz : w.heap.size < W.heap.size := by rw [← hW]; simp
  have hm : ∀ (m : Bw W) (q j : Nat), q < W.heap.size → m.val.cell? ⟨q, j, none⟩ = W.cell? ⟨q, j, none⟩ := fun m q j hq => m.ok.cell hq
  have m0 := fun m : Bw W => (hm m w.heap.size 0 hsz).trans u0
  have m1 := fun m : Bw W => (hm m w.heap.size 1 hsz).trans u1
  have m2 := fun m : Bw W => (hm m w.heap.size 2 hsz).trans u2
  have mc := fun m : Bw W => (hm m b 1 hIW.at_.lt).trans hIW.at_.c1
  have hne0 := Bw.some W
  have c2 := hI.at_.c2
  have HW : Hid (w.alloc (.cells #[.int .i64 (n.at_ : Int), .int .i64 n.end_, .int .i64 n.up] 58) = W) := hW
  have HAK : Hid (a ≤ 1048576 ∧ k ≤ 1048576) := ⟨ha, hk⟩
  have hlk : (t.loose : Int) ≤ 1048576 := by have := hI.ls; omega
  have hO' : (n.at_ : Int) < (t.root : Int) := by omega
  clear hO
  clear hM hn1 hW hBW hIW hm u0 u1 u2 hsz hI hx ha hk hN
  go_enter Try.func53, Try.ntmps53
  go_wp2_with fail
  rw [HW.out]
  clear hlook c2 HW
  go_wp2_with fail
  refine wp_region_bw (w0 := W) (by kernel_rfl) (by kernel_rfl) (Below.refl _ _) ?_
  repeat (go_big_quiet_step (fail))
  refine wpQuiet_nil ?_
  rintro _ ⟨mw, rfl⟩
  have hI2 := HI.out.stays mw.ok
  have HK2 : Hid (KeepS w mw.val) := HK.out.trans (KeepS.of mw.ok)
  have d4 := hI2.at_.c4
  have f4 := hI2.at_.fz 4
  have HQ : Hid (TsI b B1 B2 lv w0 t.miss (k + 1) (mw.val.setCell ⟨b, 4, none⟩ (.int .i64 ((t.loose : Int) + 1))) ∧ KeepS w (mw.val.setCell ⟨b, 4, none⟩ (.int .i64 ((t.loose : Int) + 1)))) := ⟨hI2.miss4, HK2.out.trans (hI2.keep 4 _)⟩
  clear hI2 m0 m1 m2 mc hne0 hO'
  generalize mw.val = w2 at *
  go_wp2_with fail
  refine bodyPost_ret (results_none rfl _ _ _) rfl ?_
  exact ⟨rfl, HQ.out⟩
set_option maxRecDepth 100000 in
set_option maxHeartbeats 8000000 in
theorem tie_open (b B1 B2 : Nat) (lv : Value) (w0 w : World) (t : Ti) (k : Nat) (x : ByteArray) (a : Nat) (n : Sp) (hN : t.named x = some n) (hO : ¬ n.at_ < t.root) (hR : ahead n (a : Int) = false) (hI : TsI b B1 B2 lv w0 t k w) (hx : x.size ≤ 1073741824) (ha : a ≤ 1048576) (hk : k ≤ 1048576) :
    Calls Try.prog 53 #[.pointer (some ⟨b, 0, none⟩), .string x, .int .i64 (a : Int)] w fun e w' => e = .returned (.tuple #[]) ∧ TsI b B1 B2 lv w0 t.miss (k + 1) w' ∧ KeepS w w' := by
  obtain ⟨n1, hn1, hM⟩ := hI.nm
  have hlook := hM.look_yes nkeyed Try.underlying51 (zeroSp w) (nkey_mk hx) hN
  unfold Sp.val at hlook
  obtain ⟨W, hW⟩ : ∃ W, w.alloc (.cells #[.int .i64 (n.at_ : Int), .int .i64 n.end_, .int .i64 n.up] 58) = W := ⟨_, rfl⟩
  have hBW : Below w.heap.size w W := by rw [← hW]; exact al_belowN w _
  obtain ⟨u0, u1, u2⟩ : W.cell? ⟨w.heap.size, 0, none⟩ = some (.int .i64 (n.at_ : Int)) ∧ W.cell? ⟨w.heap.size, 1, none⟩ = some (.int .i64 n.end_) ∧ W.cell? ⟨w.heap.size, 2, none⟩ = some (.int .i64 n.up) := by rw [← hW]; exact al_new3
  have hIW := hI.stays hBW
  have HI : Hid (TsI b B1 B2 lv w0 t k W) := hIW
  have HK : Hid (KeepS w W) := KeepS.of hBW
  have hsz : w.heap.size < W.heap.size := by rw [← hW]; simp
  have hm : ∀ (m : Bw W) (q j : Nat), q < W.heap.size → m.val.cell? ⟨q, j, none⟩ = W.cell? ⟨q, j, none⟩ := fun m q j hq => m.ok.cell hq
  have m0 := fun m : Bw W => (hm m w.heap.size 0 hsz).trans u0
  have m1 := fun m : Bw W => (hm m w.heap.size 1 hsz).trans u1
  have m2 := fun m : Bw W => (hm m w.heap.size 2 hsz).trans u2
  have mc := fun m : Bw W => (hm m b 1 hIW.at_.lt).trans hIW.at_.c1
  have hne0 := Bw.some W
  have c2 := hI.at_.c2
  have HW : Hid (w.alloc (.cells #[.int .i64 (n.at_ : Int), .int .i64 n.end_, .int .i64 n.up] 58) = W) := hW
  have HAK : Hid (a ≤ 1048576 ∧ k ≤ 1048576) := ⟨ha, hk⟩
  have hlk : (t.loose : Int) ≤ 1048576 := by have := hI.ls; omega
  have hA := Bw.calls (w := W) (fun w' _ => ahead_any n (a : Int) w')
  rw [hR] at hA
  unfold Sp.val at hA
  have hO' : decide ((n.at_ : Int) < (t.root : Int)) = false := decide_eq_false (by omega)
  have hO2 : ¬ (n.at_ : Int) < (t.root : Int) := by omega
  have hO3 : decide (n.at_ < t.root) = false := decide_eq_false hO
  clear hR
  clear hM hn1 hW hBW hIW hm u0 u1 u2 hsz hI hx ha hk hN
  go_enter Try.func53, Try.ntmps53
  go_wp2_with fail
  rw [HW.out]
  clear hlook c2 HW
  go_wp2_with fail
  refine wp_region_bw (w0 := W) (by kernel_rfl) (by kernel_rfl) (Below.refl _ _) ?_
  repeat (go_big_quiet_step ((go_at_call 52; exact hA _)))
  refine wpQuiet_nil ?_
  rintro _ ⟨mw, rfl⟩
  have hI2 := HI.out.stays mw.ok
  have HK2 : Hid (KeepS w mw.val) := HK.out.trans (KeepS.of mw.ok)
  have d4 := hI2.at_.c4
  have f4 := hI2.at_.fz 4
  have HQ : Hid (TsI b B1 B2 lv w0 t.miss (k + 1) (mw.val.setCell ⟨b, 4, none⟩ (.int .i64 ((t.loose : Int) + 1))) ∧ KeepS w (mw.val.setCell ⟨b, 4, none⟩ (.int .i64 ((t.loose : Int) + 1)))) := ⟨hI2.miss4, HK2.out.trans (hI2.keep 4 _)⟩
  clear hI2 m0 m1 m2 mc hne0 hO' hO2 hO3 hO hA
  generalize mw.val = w2 at *
  go_wp2_with fail
  refine bodyPost_ret (results_none rfl _ _ _) rfl ?_
  exact ⟨rfl, HQ.out⟩
set_option maxRecDepth 100000 in
set_option maxHeartbeats 8000000 in
theorem tie_put (b B1 B2 : Nat) (lv : Value) (w0 w : World) (t : Ti) (k : Nat) (x : ByteArray) (a : Nat) (n : Sp) (hN : t.named x = some n) (hO : ¬ n.at_ < t.root) (hR : ahead n (a : Int) = true) (hI : TsI b B1 B2 lv w0 t k w) (hx : x.size ≤ 1073741824) (ha : a ≤ 1048576) (hk : k ≤ 1048576) :
    Calls Try.prog 53 #[.pointer (some ⟨b, 0, none⟩), .string x, .int .i64 (a : Int)] w fun e w' => e = .returned (.tuple #[]) ∧ TsI b B1 B2 lv w0 { t with defs := putFn t.defs (a : Int) n.at_ } (k + 1) w' ∧ KeepS w w' := by
  obtain ⟨n1, hn1, hM⟩ := hI.nm
  have hlook := hM.look_yes nkeyed Try.underlying51 (zeroSp w) (nkey_mk hx) hN
  unfold Sp.val at hlook
  obtain ⟨W, hW⟩ : ∃ W, w.alloc (.cells #[.int .i64 (n.at_ : Int), .int .i64 n.end_, .int .i64 n.up] 58) = W := ⟨_, rfl⟩
  have hBW : Below w.heap.size w W := by rw [← hW]; exact al_belowN w _
  obtain ⟨u0, u1, u2⟩ : W.cell? ⟨w.heap.size, 0, none⟩ = some (.int .i64 (n.at_ : Int)) ∧ W.cell? ⟨w.heap.size, 1, none⟩ = some (.int .i64 n.end_) ∧ W.cell? ⟨w.heap.size, 2, none⟩ = some (.int .i64 n.up) := by rw [← hW]; exact al_new3
  have hIW := hI.stays hBW
  have HI : Hid (TsI b B1 B2 lv w0 t k W) := hIW
  have HK : Hid (KeepS w W) := KeepS.of hBW
  have hsz : w.heap.size < W.heap.size := by rw [← hW]; simp
  have hm : ∀ (m : Bw W) (q j : Nat), q < W.heap.size → m.val.cell? ⟨q, j, none⟩ = W.cell? ⟨q, j, none⟩ := fun m q j hq => m.ok.cell hq
  have m0 := fun m : Bw W => (hm m w.heap.size 0 hsz).trans u0
  have m1 := fun m : Bw W => (hm m w.heap.size 1 hsz).trans u1
  have m2 := fun m : Bw W => (hm m w.heap.size 2 hsz).trans u2
  have mc := fun m : Bw W => (hm m b 1 hIW.at_.lt).trans hIW.at_.c1
  have hne0 := Bw.some W
  have c2 := hI.at_.c2
  have HW : Hid (w.alloc (.cells #[.int .i64 (n.at_ : Int), .int .i64 n.end_, .int .i64 n.up] 58) = W) := hW
  have HAK : Hid (a ≤ 1048576 ∧ k ≤ 1048576) := ⟨ha, hk⟩
  have hlk : (t.loose : Int) ≤ 1048576 := by have := hI.ls; omega
  have hA := Bw.calls (w := W) (fun w' _ => ahead_any n (a : Int) w')
  rw [hR] at hA
  unfold Sp.val at hA
  have hO' : decide ((n.at_ : Int) < (t.root : Int)) = false := decide_eq_false (by omega)
  have hO2 : ¬ (n.at_ : Int) < (t.root : Int) := by omega
  have hO3 : decide (n.at_ < t.root) = false := decide_eq_false hO
  clear hR
  clear hM hn1 hW hBW hIW hm u0 u1 u2 hsz hI hx ha hk hN
  go_enter Try.func53, Try.ntmps53
  go_wp2_with fail
  rw [HW.out]
  clear hlook c2 HW
  go_wp2_with fail
  refine wp_region_bw (w0 := W) (by kernel_rfl) (by kernel_rfl) (Below.refl _ _) ?_
  repeat (go_big_quiet_step ((go_at_call 52; exact hA _)))
  refine wpQuiet_nil ?_
  rintro _ ⟨mw, rfl⟩
  have hI2 := HI.out.stays mw.ok
  have HK2 : Hid (KeepS w mw.val) := HK.out.trans (KeepS.of mw.ok)
  have d0 := m0 mw
  have d3 := hI2.at_.c3
  obtain ⟨w3, hup, hI3, hK3⟩ := (hI2.stays ((Below.refl _ mw.val).drew)).putD a n.at_ (by have := HAK.out; omega) (by have := HAK.out; omega)
  have HQ : Hid (TsI b B1 B2 lv w0 { t with defs := putFn t.defs (a : Int) n.at_ } (k + 1) w3 ∧ KeepS w w3) := ⟨hI3, (HK2.out.trans (KeepS.of ((Below.refl _ mw.val).drew))).trans hK3⟩
  clear hI2 m0 m1 m2 mc hne0 hA hI3 hK3
  generalize mw.val = w2 at *
  go_wp2_with fail
  go_region
  all_goals (
    clear hup d0 d3
    go_wp2_with fail
    go_end0
    exact ⟨rfl, HQ.out⟩)
theorem tie_any (b B1 B2 : Nat) (lv : Value) (w0 w : World) (t : Ti) (k : Nat) (x : ByteArray) (a : Nat) (hI : TsI b B1 B2 lv w0 t k w) (hx : x.size ≤ 1073741824) (ha : a ≤ 1048576) (hk : k ≤ 1048576) :
    Calls Try.prog 53 #[.pointer (some ⟨b, 0, none⟩), .string x, .int .i64 (a : Int)] w fun e w' => e = .returned (.tuple #[]) ∧ TsI b B1 B2 lv w0 (t.tie x a) (k + 1) w' ∧ KeepS w w' := by
  unfold Ti.tie
  cases hN : t.named x with
  | none => exact tie_none b B1 B2 lv w0 w t k x a hN hI hx ha hk
  | some n =>
    simp only []
    by_cases hO : n.at_ < t.root
    · rw [if_pos (.inl hO)]
      exact tie_old b B1 B2 lv w0 w t k x a n hN hO hI hx ha hk
    · cases hR : ahead n (a : Int) with
      | false =>
        rw [if_pos (.inr rfl)]
        exact tie_open b B1 B2 lv w0 w t k x a n hN hO hR hI hx ha hk
      | true =>
        rw [if_neg (fun h => h.elim hO (fun h => by cases h))]
        exact tie_put b B1 B2 lv w0 w t k x a n hN hO hR hI hx ha hk
end Go.Proofs.Ytepodbjdicnjoaa
