/- Several texts in one: Unt Tg Nm. -/
import Derived.Test.YtjpcmmfmdoglkalGreatDoorOvr
import Derived.Test.YtjpcmmfmdoglkalGreatDoorPr
import Derived.Deep.QuietTactic
import Derived.BigQuiet
import Derived.WalkMore
import Derived.Laws.EntriesVeiled
/- The questions of impl's names and tags: until goes to the first of some bytes, signAt asks for one of them. -/
namespace Go.Proofs.YtjpcmmfmdoglkalGreatDoor
open Go.ChangeShapes Go.WideShapes Go.ChangeAt Go.RowKit Go.Shelf
/-- The bytes of a text of signs. -/
def Signs (P : Nat → Bool) (t : ByteArray) : Prop := ∀ x, x < 256 → P x = t.data.toList.contains x.toUInt8
theorem untlC_any (t : ByteArray) (P Q : Nat → Bool) (B F : Nat) (w : World) (hF : w.heap[F]? = some (.cells #[.func (.func 127) #[] #[.pointer (some ⟨B, 0, none⟩)]] 97 (0, 0))) (hB : w.heap[B]? = some (.cells #[.string t] 9 (0, 0))) (hP : Signs P t) (hQ : ∀ x, Q x = !P x) :
    PredB 196 #[.pointer (some ⟨F, 0, none⟩)] Q w := by
  intro W x hx hb
  have hlt : F < w.heap.size := (Array.getElem?_eq_some_iff.1 hF).1
  have hFW : W.heap[F]? = some (.cells #[.func (.func 127) #[] #[.pointer (some ⟨B, 0, none⟩)]] 97 (0, 0)) := (hb.block _ hlt).trans hF
  have hcl : W.cell? ⟨F, 0, none⟩ = some (.func (.func 127) #[] #[.pointer (some ⟨B, 0, none⟩)]) := by simp [World.cell?, hFW]
  have cS : Calls Tryz.prog 127 (#[.int .u8 (x : Int)] ++ #[.pointer (some ⟨B, 0, none⟩)]) W _ := amongC_any t P B w hB hP W x hx hb
  have HQ : Hid (Q x = !P x) := hQ x
  have eg : ∀ args w, (callFunc 127 args).run Tryz.prog w = .ok (.enter 127 args) w := enters_of Tryz.func127 (by kernel_rfl) rfl
  clear hFW hF hB hb hP hQ
  show Calls Tryz.prog 196 #[.int .u8 (x : Int), .pointer (some ⟨F, 0, none⟩)] W _
  generalize hp : P x = px at *
  clear hp
  go_enter Tryz.func196, Tryz.ntmps196
  go_wp2_with (go_at_fn 127; refine cS.mono ?_; rintro e W' ⟨rfl, hbc⟩)
  go_ret
  exact ⟨ret_bool HQ.out.symm, hbc⟩
set_option maxHeartbeats 1000000 in
theorem untl_any (s t : ByteArray) (p : Int) (P Q : Nat → Bool) (w : World) (hs : s.size ≤ mx) (hP : Signs P t) (hQ : ∀ x, Q x = !P x) :
    Calls Tryz.prog 162 #[.string s, .int .i64 p, .string t] w fun e w' => e = .returned (.int .i64 (fwd Q s (cl s.size p))) ∧ Below w.heap.size w w' := by
  go_enter Tryz.func162, Tryz.ntmps162
  go_wp2_with fail
  refine (among_any _ _).mono ?_
  rintro e w1 ⟨B, rfl, hB, hb1⟩
  go_wp2_with fail
  have hAlt : B < w1.heap.size := (Array.getElem?_eq_some_iff.1 hB).1
  have hF : (w1.alloc (.cells #[.func (.func 127) #[] #[.pointer (some ⟨B, 0, none⟩)]] 97)).heap[w1.heap.size]? = some (.cells #[.func (.func 127) #[] #[.pointer (some ⟨B, 0, none⟩)]] 97 (0, 0)) := by show (w1.heap.push _)[w1.heap.size]? = _; simp
  have hn : Below w1.heap.size w1 (w1.alloc (.cells #[.func (.func 127) #[] #[.pointer (some ⟨B, 0, none⟩)]] 97)) := (Below.refl _ w1).alloc (Nat.le_refl _) _
  have hB' : (w1.alloc (.cells #[.func (.func 127) #[] #[.pointer (some ⟨B, 0, none⟩)]] 97)).heap[B]? = some (.cells #[.string t] 9 (0, 0)) := (hn.block _ hAlt).trans hB
  have hb2 : Below w.heap.size w (w1.alloc (.cells #[.func (.func 127) #[] #[.pointer (some ⟨B, 0, none⟩)]] 97)) := hb1.alloc hb1.size _
  generalize w1.alloc (.cells #[.func (.func 127) #[] #[.pointer (some ⟨B, 0, none⟩)]] 97) = w2 at *
  generalize w1.heap.size = F at *
  have cO := over_any s p 196 _ Q (enters_of Tryz.func196 (by kernel_rfl) rfl) _ hs (untlC_any t P Q B F w2 hF hB' hP hQ)
  clear hF hB' hB hAlt hn hP hQ
  go_wp2_with fail
  refine cO.mono ?_
  rintro e w3 ⟨rfl, hb3⟩
  go_wp2_with fail
  go_ret
  exact ⟨rfl, hb2.trans (hb3.mono hb2.size)⟩
theorem untl_nat (s t : ByteArray) (k v : Nat) (P Q : Nat → Bool) (w : World) (hs : s.size ≤ mx) (hk : k ≤ s.size) (hP : Signs P t) (hQ : ∀ x, Q x = !P x) (hv : fwd Q s k = v) :
    Calls Tryz.prog 162 #[.string s, .int .i64 (k : Int), .string t] w fun e w' => e = .returned (.int .i64 (v : Int)) ∧ Below w.heap.size w w' := by
  have := untl_any s t (k : Int) P Q w hs hP hQ
  rw [cl_nat _ _ hk, hv] at this
  exact this
theorem ask_heap (s t : ByteArray) (k A : Nat) (P : Nat → Bool) (h : k < s.size) (w : World) (b : Bool) (hA : w.heap[A]? = some (.cells #[.string t] 9 (0, 0))) (hP : Signs P t) (hb : P (bt s k) = b) :
    Calls Tryz.prog 127 #[.int .u8 ((s[k]'h).toNat : Int), .pointer (some ⟨A, 0, none⟩)] w fun e w' => e = .returned (.bool b) ∧ Below w.heap.size w w' := by
  subst hb
  have := amongC_any t P A w hA hP w (bt s k) (bt_lt s k) (Below.refl _ _)
  rw [← bt_get s k h] at this ⊢
  exact this
theorem below_drewN' (w : World) (n : Nat) : Below w.heap.size w (w.drewN n) := by
  induction n with
  | zero => exact Below.refl _ _
  | succ n ih => exact ih.drew
set_option maxHeartbeats 1000000 in
theorem signAt_any (s t : ByteArray) (k : Nat) (P : Nat → Bool) (w : World) (b : Bool) (hP : Signs P t) (hb : b = sgn P s k) :
    Calls Tryz.prog 37 #[.string s, .int .i64 (k : Int), .string t] w fun e w' => e = .returned (.bool b) ∧ Below w.heap.size w w' := by
  by_cases hlt : k < s.size
  · have HG : Hid (P (bt s k) = b) := by
      show P (bt s k) = b
      rw [hb]; unfold sgn; rw [decide_eq_true hlt]; rfl
    have HP : Hid (Signs P t) := hP
    clear hb hP
    go_enter Tryz.func37, Tryz.ntmps37
    go_wp2_with fail
    go_region_with (first
      | (go_at_call 80; refine (among_any _ _).mono ?_; rintro e w1 ⟨A, rfl, hA, hb1⟩)
      | (go_at_call 127; refine (ask_heap s t k A P hlt _ b hA HP.out HG.out).mono ?_; rintro e w2 ⟨rfl, hb2⟩))
    all_goals
      go_wp2_with fail
      go_ret
      have hb3 : Below w.heap.size w w1 := ((Below.refl _ w).drew).trans (hb1.mono (by simp))
      exact ⟨ret_bool rfl, hb3.trans (hb2.mono hb3.size)⟩
  · have HB : Hid (b = false) := by show b = false; rw [hb]; unfold sgn; rw [decide_eq_false hlt]; rfl
    have hd : decide (k < s.size) = false := decide_eq_false hlt
    clear hb hP hlt
    go_enter Tryz.func37, Tryz.ntmps37
    go_wp2_with fail
    go_quiet (fail)
    go_wp2
    go_ret
    exact ⟨ret_bool HB.out.symm, below_drewN' _ _⟩
theorem p38_signs : Signs p38 ⟨#[38, 42]⟩ := by
  intro x hx
  show p38 x = [38, 42].contains x.toUInt8
  rw [List.contains_cons, List.contains_cons, List.contains_nil, u8_eq hx, u8_eq hx, Bool.or_false]
  rfl
theorem p33_signs : Signs p33 ⟨#[33]⟩ := by
  intro x hx
  show p33 x = [33].contains x.toUInt8
  rw [List.contains_cons, List.contains_nil, u8_eq hx, Bool.or_false]
  rfl
theorem p62_signs : Signs p62 ⟨#[62]⟩ := by
  intro x hx
  show p62 x = [62].contains x.toUInt8
  rw [List.contains_cons, List.contains_nil, u8_eq hx, Bool.or_false]
  rfl
theorem pE_signs : Signs pE ⟨#[32, 9, 10, 44, 91, 93, 123, 125]⟩ := by
  intro x hx
  show pE x = [32, 9, 10, 44, 91, 93, 123, 125].contains x.toUInt8
  simp only [List.contains_cons, List.contains_nil, u8_eq hx, Bool.or_false]
  unfold pE pG pF
  simp only [Bool.or_assoc]
  rfl
theorem pA_signs : Signs pA ⟨#[32, 9, 10, 62]⟩ := by
  intro x hx
  show pA x = [32, 9, 10, 62].contains x.toUInt8
  simp only [List.contains_cons, List.contains_nil, u8_eq hx, Bool.or_false]
  unfold pA pG
  simp only [Bool.or_assoc]
  rfl
end Go.Proofs.YtjpcmmfmdoglkalGreatDoor
/- impl.TagAt answers the tag at a place. -/
namespace Go.Proofs.YtjpcmmfmdoglkalGreatDoor
open Go.ChangeShapes Go.WideShapes Go.ChangeAt Go.RowKit Go.Shelf
theorem toList_beq' (a b : ByteArray) : (a.toList == b.toList) = decide (a = b) := by
  rw [Bool.eq_iff_iff]; simp only [beq_iff_eq, decide_eq_true_eq]
  constructor
  · intro h
    apply ba_ext
    rw [← ByteArray.toList_eq, ← ByteArray.toList_eq, h]
  · intro h; rw [h]
theorem hasp_any (s t : ByteArray) (w : World) (b : Bool) (hb : b = preT s t) :
    Calls Tryz.prog 177 #[.string s, .string t] w fun e w' => e = .returned (.bool b) ∧ w' = w := by
  subst hb
  by_cases h : t.size ≤ s.size
  · go_enter Tryz.func177, Tryz.ntmps177
    go_wp2
    go_ret
    exact ⟨ret_bool (by rw [toList_beq']; simp [preT, h]), rfl⟩
  · go_enter Tryz.func177, Tryz.ntmps177
    go_wp2
    go_ret
    exact ⟨ret_bool (by simp [preT, h]), rfl⟩
set_option maxHeartbeats 2000000 in
theorem tagEnd_any (s : ByteArray) (k v : Nat) (w : World) (hs : s.size ≤ mx) (hk : k ≤ s.size) (h33 : bt s k = 33) (hv : tagQ s k = v) :
    Calls Tryz.prog 209 #[.string s, .int .i64 (k : Int)] w fun e w' => e = .returned (.int .i64 (v : Int)) ∧ Below w.heap.size w w' := by
  have hs' := hs
  unfold mx at hs'
  have HPR := pre_lt s k hk h33
  have HP : Hid (preT (s.extract k s.size) ⟨#[33, 60]⟩ = lt s k) := HPR
  clear HPR h33
  cases hl : lt s k with
  | false =>
    have HH : Hid (false = preT (s.extract k s.size) ⟨#[33, 60]⟩) := by show false = _; rw [HP.out, hl]
    have HV : Hid (fwd pX s k = v) := by show fwd pX s k = v; rw [← hv, tagQ_no1 hl]; rfl
    clear hl hv HP
    go_enter Tryz.func209, Tryz.ntmps209
    go_wp2_with fail
    refine (hasp_any _ _ _ false HH.out).mono ?_
    rintro e w1 ⟨rfl, rfl⟩
    go_wp2_with fail
    refine (untl_nat s _ k v pE pX _ hs hk pE_signs (fun _ => rfl) HV.out).mono ?_
    rintro e w2 ⟨rfl, hb2⟩
    go_wp2_with fail
    go_ret
    exact ⟨rfl, hb2⟩
  | true =>
    have HH : Hid (true = preT (s.extract k s.size) ⟨#[33, 60]⟩) := by show true = _; rw [HP.out, hl]
    have hk2 := lt_size hl
    have hcg := clo_ge s (k + 2)
    have hcl := clo_le s (k + 2) hk2
    generalize hq : clo s (k + 2) = q at *
    have HQ : Hid (fwd pC s (k + 2) = q) := hq
    by_cases h2 : q = k + 2
    · have HV : Hid (fwd pX s k = v) := by show fwd pX s k = v; rw [← hv, tagQ_no2 hq h2]; rfl
      subst h2
      clear hl hv HP hq
      go_enter Tryz.func209, Tryz.ntmps209
      go_wp2_with fail
      refine (hasp_any _ _ _ true HH.out).mono ?_
      rintro e w1 ⟨rfl, rfl⟩
      go_wp2_with fail
      refine (untl_nat s _ (k + 2) (k + 2) pA pC _ hs hk2 pA_signs (fun _ => rfl) HQ.out).mono ?_
      rintro e w2 ⟨rfl, hb2⟩
      go_wp2_with fail
      refine (untl_nat s _ k v pE pX _ hs hk pE_signs (fun _ => rfl) HV.out).mono ?_
      rintro e w3 ⟨rfl, hb3⟩
      go_wp2_with fail
      go_ret
      exact ⟨rfl, hb2.trans (hb3.mono hb2.size)⟩
    · have h2i : ((k : Int) + 2) < (q : Int) := by omega
      cases h3 : sgn p62 s q with
      | false =>
        have HV : Hid (fwd pX s k = v) := by show fwd pX s k = v; rw [← hv, tagQ_no3 hq h3]; rfl
        have H3 : Hid (false = sgn p62 s q) := h3.symm
        clear hl hv HP hq h2 h3
        go_enter Tryz.func209, Tryz.ntmps209
        go_wp2_with fail
        refine (hasp_any _ _ _ true HH.out).mono ?_
        rintro e w1 ⟨rfl, rfl⟩
        go_wp2_with fail
        refine (untl_nat s _ (k + 2) q pA pC _ hs hk2 pA_signs (fun _ => rfl) HQ.out).mono ?_
        rintro e w2 ⟨rfl, hb2⟩
        go_wp2_with fail
        refine (signAt_any s _ q p62 _ false p62_signs H3.out).mono ?_
        rintro e w3 ⟨rfl, hb3⟩
        go_wp2_with fail
        refine (untl_nat s _ k v pE pX _ hs hk pE_signs (fun _ => rfl) HV.out).mono ?_
        rintro e w4 ⟨rfl, hb4⟩
        go_wp2_with fail
        go_ret
        have hb5 := hb2.trans (hb3.mono hb2.size)
        exact ⟨rfl, hb5.trans (hb4.mono hb5.size)⟩
      | true =>
        have HV : Hid (q + 1 = v) := by show q + 1 = v; rw [← hv, tagQ_yes hl hq (by omega) h3]
        have H3 : Hid (true = sgn p62 s q) := h3.symm
        clear hl hv HP hq h2 h3
        go_enter Tryz.func209, Tryz.ntmps209
        go_wp2_with fail
        refine (hasp_any _ _ _ true HH.out).mono ?_
        rintro e w1 ⟨rfl, rfl⟩
        go_wp2_with fail
        refine (untl_nat s _ (k + 2) q pA pC _ hs hk2 pA_signs (fun _ => rfl) HQ.out).mono ?_
        rintro e w2 ⟨rfl, hb2⟩
        go_wp2_with fail
        refine (signAt_any s _ q p62 _ true p62_signs H3.out).mono ?_
        rintro e w3 ⟨rfl, hb3⟩
        go_wp2_with fail
        go_ret
        exact ⟨ret_int (by rw [← HV.out]; omega), hb2.trans (hb3.mono hb2.size)⟩
/-- What reading tells: nothing wrong, or an error. -/
def ErrIs (v : Value) (b : Bool) : Prop := (b = true → v = .nilIface) ∧ (b = false → ∃ m, v = .iface 162 (.string m))
def TripPost (t : ByteArray) (q : Nat) (b : Bool) (w : World) (e : Ending) (w' : World) : Prop :=
  ∃ v, e = .returned (.tuple #[.string t, .int .i64 (q : Int), v]) ∧ ErrIs v b ∧ Below w.heap.size w w'
theorem err_no (m : ByteArray) : ErrIs (.iface 162 (.string m)) false := ⟨fun h => by simp at h, fun _ => ⟨m, rfl⟩⟩
theorem err_yes : ErrIs .nilIface true := ⟨fun _ => rfl, fun h => by simp at h⟩
set_option maxHeartbeats 2000000 in
theorem readRawTag_any (s : ByteArray) (p : Int) (w : World) (hs : s.size ≤ mx) :
    Calls Tryz.prog 185 #[.string s, .int .i64 p] w (TripPost (tagT s (cl s.size p)) (tagE s (cl s.size p)) (tagB s (cl s.size p)) w) := by
  have hcl := cl_le s.size p
  have hs' := hs
  unfold mx at hs'
  go_enter Tryz.func185, Tryz.ntmps185
  go_wp2_with fail
  refine (bring_any _ _ _ hs).mono ?_
  rintro e w1 ⟨rfl, rfl⟩
  generalize hk : cl s.size p = k at *
  clear hk
  cases h0 : sgn p33 s k with
  | false =>
    have H0 : Hid (false = sgn p33 s k) := h0.symm
    obtain ⟨e1, e2, e3⟩ := tag_no0 h0
    have E1 : Hid (tagT s k = ByteArray.empty) := e1
    have E2 : Hid (tagE s k = 0) := e2
    have E3 : Hid (tagB s k = false) := e3
    clear h0 e1 e2 e3
    go_wp2_with fail
    refine (signAt_any s _ k p33 _ false p33_signs H0.out).mono ?_
    rintro e w2 ⟨rfl, hb2⟩
    go_wp2_with fail
    go_ret3
    rw [E1.out, E2.out, E3.out]
    exact ⟨_, rfl, err_no _, hb2⟩
  | true =>
    have H0 : Hid (true = sgn p33 s k) := h0.symm
    have h33 : bt s k = 33 := by have := sgn_bt h0; unfold p33 at this; simpa using this
    have H33 : Hid (bt s k = 33) := h33
    have hge := tagQ_ge s k
    have hle := tagQ_le s k hcl
    generalize hq : tagQ s k = q at *
    have HQ : Hid (tagQ s k = q) := hq
    by_cases h2 : (60 : Int) < (q : Int) - (k : Int)
    · obtain ⟨e1, e2, e3⟩ := tag_no2 hq (by omega)
      have E1 : Hid (tagT s k = ByteArray.empty) := e1
      have E2 : Hid (tagE s k = 0) := e2
      have E3 : Hid (tagB s k = false) := e3
      clear h0 e1 e2 e3 hq h33
      go_wp2_with fail
      refine (signAt_any s _ k p33 _ true p33_signs H0.out).mono ?_
      rintro e w2 ⟨rfl, hb2⟩
      go_wp2_with fail
      refine (tagEnd_any s k q _ hs hcl H33.out HQ.out).mono ?_
      rintro e w3 ⟨rfl, hb3⟩
      go_wp2_with fail
      go_ret3
      rw [E1.out, E2.out, E3.out]
      exact ⟨_, rfl, err_no _, hb2.trans (hb3.mono hb2.size)⟩
    · obtain ⟨e1, e2, e3⟩ := tag_yes h0 hq (by omega)
      have E1 : Hid (tagT s k = s.extract k q) := e1
      have E2 : Hid (tagE s k = q) := e2
      have E3 : Hid (tagB s k = true) := e3
      have h2' : (q : Int) - (k : Int) ≤ 60 := by omega
      clear h0 e1 e2 e3 hq h33 h2
      go_wp2_with fail
      refine (signAt_any s _ k p33 _ true p33_signs H0.out).mono ?_
      rintro e w2 ⟨rfl, hb2⟩
      go_wp2_with fail
      refine (tagEnd_any s k q _ hs hcl H33.out HQ.out).mono ?_
      rintro e w3 ⟨rfl, hb3⟩
      go_wp2_with fail
      go_ret3
      rw [E1.out, E2.out, E3.out]
      exact ⟨_, rfl, err_yes, hb2.trans (hb3.mono hb2.size)⟩
theorem tag_any' (s : ByteArray) (p : Int) (w : World) (hs : s.size ≤ mx) (tt : ByteArray) (te : Nat) (tb : Bool) (h1 : tagT s (cl s.size p) = tt) (h2 : tagE s (cl s.size p) = te) (h3 : tagB s (cl s.size p) = tb) :
    Calls Tryz.prog 155 #[.string s, .int .i64 p] w fun e w' => e = .returned (.tuple #[.string tt, .int .i64 (te : Int), .bool tb]) ∧ Below w.heap.size w w' := by
  have hR := readRawTag_any s p w hs
  rw [h1, h2, h3] at hR
  clear h1 h2 h3
  go_enter Tryz.func155, Tryz.ntmps155
  go_wp2_with fail
  refine hR.mono ?_
  rintro e w1 ⟨v, rfl, he, hb1⟩
  cases tb with
  | true =>
    obtain rfl := he.1 rfl
    clear he hR
    go_wp2_with fail
    go_quiet (fail)
    go_wp2
    go_ret3
    exact ⟨rfl, hb1.trans ((below_drewN' _ _).mono hb1.size)⟩
  | false =>
    obtain ⟨m, rfl⟩ := he.2 rfl
    clear he hR
    go_wp2_with fail
    go_quiet (fail)
    go_wp2
    go_ret3
    exact ⟨rfl, hb1.trans ((below_drewN' _ _).mono hb1.size)⟩
theorem tag_any (s : ByteArray) (p : Int) (w : World) (hs : s.size ≤ mx) :
    Calls Tryz.prog 155 #[.string s, .int .i64 p] w fun e w' => e = .returned (.tuple #[.string (tagT s (cl s.size p)), .int .i64 (tagE s (cl s.size p)), .bool (tagB s (cl s.size p))]) ∧ Below w.heap.size w w' :=
  tag_any' s p w hs _ _ _ rfl rfl rfl
end Go.Proofs.YtjpcmmfmdoglkalGreatDoor
/- impl.NameAt answers the name at a place. -/
namespace Go.Proofs.YtjpcmmfmdoglkalGreatDoor
open Go.ChangeShapes Go.WideShapes Go.ChangeAt Go.RowKit Go.Shelf
set_option maxHeartbeats 2000000 in
theorem readName_any (s : ByteArray) (p : Int) (k : Nat) (w : World) (hs : s.size ≤ mx) (hk : cl s.size p = k) :
    Calls Tryz.prog 121 #[.string s, .int .i64 p] w (TripPost (nameT s k) (nameE s k) (nameB s k) w) := by
  have hcl := cl_le s.size p
  rw [hk] at hcl
  have HK : Hid (cl s.size p = k) := hk
  clear hk
  have hs' := hs
  unfold mx at hs'
  go_enter Tryz.func121, Tryz.ntmps121
  go_wp2_with fail
  refine (bring_any _ _ _ hs).mono ?_
  rintro e w1 ⟨rfl, rfl⟩
  rw [HK.out]
  cases h0 : sgn p38 s k with
  | false =>
    have H0 : Hid (false = sgn p38 s k) := h0.symm
    obtain ⟨e1, e2, e3⟩ := name_no0 h0
    have E1 : Hid (nameT s k = ByteArray.empty) := e1
    have E2 : Hid (nameE s k = 0) := e2
    have E3 : Hid (nameB s k = false) := e3
    clear h0 e1 e2 e3
    go_wp2_with fail
    refine (signAt_any s _ k p38 _ false p38_signs H0.out).mono ?_
    rintro e w2 ⟨rfl, hb2⟩
    go_wp2_with fail
    go_ret3
    rw [E1.out, E2.out, E3.out]
    exact ⟨_, rfl, err_no _, hb2⟩
  | true =>
    have H0 : Hid (true = sgn p38 s k) := h0.symm
    have hlt := sgn_lt h0
    have hge := str_ge s (k + 1)
    have hle := str_le s (k + 1) hlt
    generalize hq : str s (k + 1) = q at *
    have HQ : Hid (fwd pX s (k + 1) = q) := hq
    by_cases h1 : q = k + 1
    · obtain ⟨e1, e2, e3⟩ := name_no1 hq h1
      have E1 : Hid (nameT s k = ByteArray.empty) := e1
      have E2 : Hid (nameE s k = 0) := e2
      have E3 : Hid (nameB s k = false) := e3
      subst h1
      clear h0 e1 e2 e3 hq
      go_wp2_with fail
      refine (signAt_any s _ k p38 _ true p38_signs H0.out).mono ?_
      rintro e w2 ⟨rfl, hb2⟩
      go_wp2_with fail
      refine (untl_nat s _ (k + 1) (k + 1) pE pX _ hs hlt pE_signs (fun _ => rfl) HQ.out).mono ?_
      rintro e w3 ⟨rfl, hb3⟩
      go_wp2_with fail
      go_ret3
      rw [E1.out, E2.out, E3.out]
      exact ⟨_, rfl, err_no _, hb2.trans (hb3.mono hb2.size)⟩
    · have hne : ((q : Int) == (k : Int) + 1) = false := by rw [beq_eq_false_iff_ne]; omega
      by_cases h2 : k + 61 < q
      · obtain ⟨e1, e2, e3⟩ := name_no2 hq h2
        have E1 : Hid (nameT s k = ByteArray.empty) := e1
        have E2 : Hid (nameE s k = 0) := e2
        have E3 : Hid (nameB s k = false) := e3
        have h2' : (60 : Int) < (q : Int) - ((k : Int) + 1) := by omega
        clear h0 e1 e2 e3 hq h1 h2
        go_wp2_with fail
        refine (signAt_any s _ k p38 _ true p38_signs H0.out).mono ?_
        rintro e w2 ⟨rfl, hb2⟩
        go_wp2_with fail
        refine (untl_nat s _ (k + 1) q pE pX _ hs hlt pE_signs (fun _ => rfl) HQ.out).mono ?_
        rintro e w3 ⟨rfl, hb3⟩
        go_wp2_with fail
        go_ret3
        rw [E1.out, E2.out, E3.out]
        exact ⟨_, rfl, err_no _, hb2.trans (hb3.mono hb2.size)⟩
      · obtain ⟨e1, e2, e3⟩ := name_yes h0 hq (by omega) (by omega)
        have E1 : Hid (nameT s k = s.extract (k + 1) q) := e1
        have E2 : Hid (nameE s k = q) := e2
        have E3 : Hid (nameB s k = true) := e3
        have h2' : (q : Int) - ((k : Int) + 1) ≤ 60 := by omega
        clear h0 e1 e2 e3 hq h1 h2
        go_wp2_with fail
        refine (signAt_any s _ k p38 _ true p38_signs H0.out).mono ?_
        rintro e w2 ⟨rfl, hb2⟩
        go_wp2_with fail
        refine (untl_nat s _ (k + 1) q pE pX _ hs hlt pE_signs (fun _ => rfl) HQ.out).mono ?_
        rintro e w3 ⟨rfl, hb3⟩
        go_wp2_with fail
        go_ret3
        rw [E1.out, E2.out, E3.out]
        exact ⟨_, rfl, err_yes, hb2.trans (hb3.mono hb2.size)⟩
theorem name_any' (s : ByteArray) (p : Int) (w : World) (hs : s.size ≤ mx) (tt : ByteArray) (te : Nat) (tb : Bool) (h1 : nameT s (cl s.size p) = tt) (h2 : nameE s (cl s.size p) = te) (h3 : nameB s (cl s.size p) = tb) :
    Calls Tryz.prog 74 #[.string s, .int .i64 p] w fun e w' => e = .returned (.tuple #[.string tt, .int .i64 (te : Int), .bool tb]) ∧ Below w.heap.size w w' := by
  have hR := readName_any s p _ w hs rfl
  rw [h1, h2, h3] at hR
  clear h1 h2 h3
  go_enter Tryz.func74, Tryz.ntmps74
  go_wp2_with fail
  refine hR.mono ?_
  rintro e w1 ⟨v, rfl, he, hb1⟩
  cases tb with
  | true =>
    obtain rfl := he.1 rfl
    clear he hR
    go_wp2_with fail
    go_quiet (fail)
    go_wp2
    go_ret3
    exact ⟨rfl, hb1.trans ((below_drewN' _ _).mono hb1.size)⟩
  | false =>
    obtain ⟨m, rfl⟩ := he.2 rfl
    clear he hR
    go_wp2_with fail
    go_quiet (fail)
    go_wp2
    go_ret3
    exact ⟨rfl, hb1.trans ((below_drewN' _ _).mono hb1.size)⟩
theorem name_any (s : ByteArray) (p : Int) (w : World) (hs : s.size ≤ mx) :
    Calls Tryz.prog 74 #[.string s, .int .i64 p] w fun e w' => e = .returned (.tuple #[.string (nameT s (cl s.size p)), .int .i64 (nameE s (cl s.size p)), .bool (nameB s (cl s.size p))]) ∧ Below w.heap.size w w' :=
  name_any' s p w hs _ _ _ rfl rfl rfl
end Go.Proofs.YtjpcmmfmdoglkalGreatDoor
