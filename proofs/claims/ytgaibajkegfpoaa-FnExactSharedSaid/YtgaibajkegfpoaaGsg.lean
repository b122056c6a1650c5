/- spec.l15Go goes through a graph as the plain function does. -/
import Derived.Test.YtgaibajkegfpoaaGgo
namespace Go.Proofs.Ytgaibajkegfpoaa
open Go.ChangeShapes Go.WideShapes Go.ChangeAt Go.RowKit Go.Deep
/-- What is promised of l15Go, with so much fuel. -/
def GoC (w0 : World) (B S c : Nat) (nv rv : Value) (g : Gr) (f : Nat) : Prop := ∀ (i : Nat) (st : Ws) (w : World), WAt w0 B S c nv rv st w → WInv g st → zeros st.seen < f → i < g.nodes.length →
  Calls Try.prog 30 #[.pointer (some ⟨B, 0, none⟩), .int .i64 (i : Int)] w fun e w' => e = .returned (.tuple #[]) ∧ WAt w0 B S c nv rv (goW g f i st) w'
theorem kids_at {g : Gr} {i : Nat} {n : Nd} (h : g.nodes[i]? = some n) : kidsOf g i = n.kids := by unfold kidsOf; rw [h]
theorem goW_bad {g : Gr} {f i : Nat} {st : Ws} (h : st.bad = true ∨ st.seen.getD i 0 = 1 ∨ (st.seen.getD i 0 = 0 ∧ (i : Int) ≠ st.next) ∨ st.seen.getD i 0 = 3) : goW g (f + 1) i st = { st with bad := true } := by rw [goW, if_pos h]
theorem goW_met {g : Gr} {f i : Nat} {st : Ws} (h1 : ¬ (st.bad = true ∨ st.seen.getD i 0 = 1 ∨ (st.seen.getD i 0 = 0 ∧ (i : Int) ≠ st.next) ∨ st.seen.getD i 0 = 3)) (h : st.seen.getD i 0 = 2) : goW g (f + 1) i st = st := by rw [goW, if_neg h1, if_pos h]
theorem goW_new {g : Gr} {f i : Nat} {st : Ws} (h1 : ¬ (st.bad = true ∨ st.seen.getD i 0 = 1 ∨ (st.seen.getD i 0 = 0 ∧ (i : Int) ≠ st.next) ∨ st.seen.getD i 0 = 3)) (h : ¬ st.seen.getD i 0 = 2) :
    goW g (f + 1) i st = { (kidsOf g i).foldl (fun t k => goW g f k.toNat t) { st with seen := st.seen.set i 1, next := st.next + 1 } with seen := ((kidsOf g i).foldl (fun t k => goW g f k.toNat t) { st with seen := st.seen.set i 1, next := st.next + 1 }).seen.set i 2 } := by rw [goW, if_neg h1, if_neg h]
theorem fold_take {g : Gr} {f : Nat} {l : List Int} {k : Nat} {x : Int} (h : l[k]? = some x) (st : Ws) : (l.take (k + 1)).foldl (fun t k => goW g f k.toNat t) st = goW g f x.toNat ((l.take k).foldl (fun t k => goW g f k.toNat t) st) := by
  rw [List.take_add_one, h, List.foldl_append]
  rfl
theorem fold_inv {g : Gr} (hk : ∀ i, ∀ k ∈ kidsOf g i, 0 ≤ k ∧ k < (g.nodes.length : Int)) (f : Nat) : ∀ (l : List Int) (t : Ws), (∀ k ∈ l, 0 ≤ k ∧ k < (g.nodes.length : Int)) → WInv g t → WInv g (l.foldl (fun t k => goW g f k.toNat t) t) ∧ zeros (l.foldl (fun t k => goW g f k.toNat t) t).seen ≤ zeros t.seen
  | [], t, _, h => ⟨h, Nat.le_refl _⟩
  | k :: l, t, hl, h => by
    have hk0 := hl k (List.mem_cons_self ..)
    have h1 := goW_inv g hk f k.toNat t (by omega) h
    have h2 := fold_inv hk f l _ (fun x hx => hl x (List.mem_cons_of_mem _ hx)) h1
    exact ⟨h2.1, Nat.le_trans h2.2 (goW_keep g f k.toNat t).2⟩
set_option maxHeartbeats 8000000 in
set_option maxRecDepth 100000 in
theorem go_step {w0 : World} {B S c : Nat} {nv rv : Value} {g : Gr} (hG : NlAt w0 nv g.nodes) (hk : ∀ i, ∀ k ∈ kidsOf g i, 0 ≤ k ∧ k < (g.nodes.length : Int)) (hlen : g.nodes.length ≤ 1048576) (hkl : ∀ n ∈ g.nodes, n.kids.length ≤ 1048576) {f : Nat} (IH : GoC w0 B S c nv rv g f) : GoC w0 B S c nv rv g (f + 1) := by
  intro i st w hW hI hz hi
  obtain ⟨na, nc, rfl⟩ := hG.sl
  have hl : i < st.seen.length := by rw [hI.len]; exact hi
  have hsl : st.seen.length ≤ 1048576 := by rw [hI.len]; exact hlen
  have hlI : (i : Int) < (st.seen.length : Int) := by omega
  have hslI : (st.seen.length : Int) ≤ 1048576 := by omega
  obtain ⟨c0, _, c2, c3, c4⟩ := hW.cells
  obtain ⟨d0, d1⟩ := hW.seenAt hl
  have f3 := hW.fz 3
  have f4 := hW.fz 4
  obtain ⟨sv, hsv⟩ : ∃ sv, st.seen.getD i 0 = sv := ⟨_, rfl⟩
  have HSV : Hid (st.seen.getD i 0 = sv) := hsv
  rw [hsv] at d0
  have hn0 := hI.nx0
  have hn1 : st.next ≤ 1048576 := by have := hI.nx; omega
  have HW : Hid (WAt w0 B S c (.slice na g.nodes.length nc) rv st w) := hW
  have HI : Hid (WInv g st) := hI
  by_cases hb : st.bad = true
  · have HO : Hid (goW g (f + 1) i st = { st with bad := true }) := goW_bad (.inl hb)
    rw [hb] at c4
    clear hW hI hb hsv
    go_enter Try.func30, Try.ntmps30
    go_wp2_with fail
    refine bodyPost_ret (results_none rfl _ _ _) rfl ?_
    exact ⟨rfl, by rw [HO.out]; exact HW.out.setBad⟩
  have hb : st.bad = false := by simpa using hb
  rw [hb] at c4
  by_cases s1 : sv = 1
  · have HO : Hid (goW g (f + 1) i st = { st with bad := true }) := goW_bad (.inr (.inl (by rw [hsv]; exact s1)))
    subst s1
    clear hW hI hb hsv
    go_enter Try.func30, Try.ntmps30
    go_wp2_with fail
    refine bodyPost_ret (results_none rfl _ _ _) rfl ?_
    exact ⟨rfl, by rw [HO.out]; exact HW.out.setBad⟩
  by_cases s0 : sv = 0
  case neg =>
    have t1 : (sv == 1) = false := by rw [beq_eq_false_iff_ne]; exact s1
    have t0 : (sv == 0) = false := by rw [beq_eq_false_iff_ne]; exact s0
    by_cases s3 : sv = 3
    · have HO : Hid (goW g (f + 1) i st = { st with bad := true }) := goW_bad (.inr (.inr (.inr (by rw [hsv]; exact s3))))
      subst s3
      clear hW hI hb hsv s1 s0
      go_enter Try.func30, Try.ntmps30
      go_wp2_with fail
      refine bodyPost_ret (results_none rfl _ _ _) rfl ?_
      exact ⟨rfl, by rw [HO.out]; exact HW.out.setBad⟩
    · have hr := hI.ok _ (List.getElem_mem hl)
      have hd : st.seen.getD i 0 = st.seen[i] := by simp [List.getD, List.getElem?_eq_getElem hl]
      rw [← hd, hsv] at hr
      obtain rfl : sv = 2 := by omega
      have HO : Hid (goW g (f + 1) i st = st) := goW_met (by rw [hsv, hb]; rintro (h | h | ⟨h, _⟩ | h) <;> first | cases h | omega) hsv
      clear hW hI hb hsv s1 s0 s3 hr hd
      go_enter Try.func30, Try.ntmps30
      go_wp2_with fail
      refine bodyPost_ret (results_none rfl _ _ _) rfl ?_
      exact ⟨rfl, by rw [HO.out]; exact HW.out⟩
  subst s0
  by_cases hn : (i : Int) = st.next
  case neg =>
    have HO : Hid (goW g (f + 1) i st = { st with bad := true }) := goW_bad (.inr (.inr (.inl ⟨hsv, hn⟩)))
    have tn : ((i : Int) != st.next) = true := by rw [bne_iff_ne]; exact hn
    clear hW hI hb hsv hn
    go_enter Try.func30, Try.ntmps30
    go_wp2_with fail
    refine bodyPost_ret (results_none rfl _ _ _) rfl ?_
    exact ⟨rfl, by rw [HO.out]; exact HW.out.setBad⟩
  have hnx : st.next = (i : Int) := hn.symm
  rw [hnx] at c3
  have hnot : ¬ (st.bad = true ∨ st.seen.getD i 0 = 1 ∨ (st.seen.getD i 0 = 0 ∧ (i : Int) ≠ st.next) ∨ st.seen.getD i 0 = 3) := by
    rw [hsv, hb]
    rintro (h | h | ⟨_, h⟩ | h)
    · cases h
    · cases h
    · exact h hn
    · cases h
  have hnot2 : ¬ st.seen.getD i 0 = 2 := by rw [hsv]; decide
  obtain ⟨-, h0, -⟩ := met_new hI hi hnot hnot2
  obtain ⟨hI1, hz1⟩ := inv_enter hI h0
  obtain ⟨n, hx⟩ : ∃ n, g.nodes[i]? = some n := ⟨_, List.getElem?_eq_getElem hi⟩
  have hkn := kids_at hx
  have HO := goW_new (g := g) (f := f) hnot hnot2
  rw [hkn, hnx] at HO
  rw [hnx] at hI1
  obtain ⟨st1, hst1⟩ : ∃ st1 : Ws, ({ st with seen := st.seen.set i 1, next := (i : Int) + 1 } : Ws) = st1 := ⟨_, rfl⟩
  rw [hst1] at HO hI1
  have hzf : zeros st1.seen < f := by rw [← hst1]; show zeros (st.seen.set i 1) < f; omega
  have hkk := hk i
  rw [hkn] at hkk
  have HF : Hid (∀ k, WInv g ((n.kids.take k).foldl (fun t k => goW g f k.toNat t) st1) ∧ zeros ((n.kids.take k).foldl (fun t k => goW g f k.toNat t) st1).seen ≤ zeros st1.seen) := fun k => fold_inv hk f (n.kids.take k) st1 (fun x hx => hkk x (List.mem_of_mem_take hx)) hI1
  have HKR : Hid (∀ x ∈ n.kids, 0 ≤ x ∧ x < (g.nodes.length : Int)) := hkk
  have HZF : Hid (zeros st1.seen < f) := hzf
  have HOO : Hid (goW g (f + 1) i st = { n.kids.foldl (fun t k => goW g f k.toNat t) st1 with seen := (n.kids.foldl (fun t k => goW g f k.toNat t) st1).seen.set i 2 }) := HO
  -- the two stores
  have W1 := hW.setNext ((i : Int) + 1)
  obtain ⟨a0, _, a2, _, _⟩ := W1.cells
  obtain ⟨e0, e1⟩ := W1.seenAt (i := i) hl
  have W2 := W1.setSeen i 1
  obtain ⟨b0, _, _, _, _⟩ := W2.cells
  have HW2 : Hid (WAt w0 B S c (.slice na g.nodes.length nc) rv st1 ((w.setCell ⟨B, 3, none⟩ (.int .i64 ((i : Int) + 1))).setCell ⟨S, i, none⟩ (.int .i64 1))) := by show WAt _ _ _ _ _ _ _ _; rw [← hst1]; exact W2
  obtain ⟨nb, no, kv, rfl, hnb, hN0⟩ := hG.at hx
  have hN := hN0.later hnb W2.below
  have n3 := hN.c3
  have hIk := hN0.kids
  obtain ⟨ka, kc, rfl⟩ := hIk.sl
  have HIK : Hid (IlAt w0 (.slice ka n.kids.length kc) n.kids) := hIk
  have hi' : (i : Int) < (g.nodes.length : Int) := by omega
  have hln' : (g.nodes.length : Int) ≤ 1048576 := by omega
  have hkl' : (n.kids.length : Int) ≤ 1048576 := by have := hkl n (List.mem_of_getElem? hx); omega
  have HIH : Hid (GoC w0 B S c (.slice (some ⟨nb, no, none⟩) g.nodes.length nc) rv g f) := IH
  have hiI : (i : Int) ≤ 1048576 := by omega
  have HIN : Hid (i < g.nodes.length ∧ g.nodes.length ≤ 1048576) := ⟨hi, hlen⟩
  clear hW hI HW HI hb hsv hn hnx hn0 hn1 hnot hnot2 h0 hI1 hz1 hkn HO hst1 hzf hkk W1 W2 hN hN0 hIk hk hkl IH HSV hG hx hnb hz
  go_enter Try.func30, Try.ntmps30
  go_wp2_with fail
  go_loopw [82] (fun iv wr => ∃ k : Nat, iv = .int .i64 k ∧ k ≤ n.kids.length ∧ Hid (WAt w0 B S c (.slice (some ⟨nb, no, none⟩) g.nodes.length nc) rv ((n.kids.take k).foldl (fun t k => goW g f k.toNat t) st1) wr)) (fun iv _ => n.kids.length - (intOf iv).toNat)
  case atStart => exact ⟨0, rfl, Nat.zero_le _, HW2⟩
  case round =>
    obtain ⟨k, rfl, hk, HR⟩ := hrel
    by_cases hlt : k < n.kids.length
    · have hltI : (k : Int) < (n.kids.length : Int) := by omega
      obtain ⟨x, hx⟩ : ∃ x, n.kids[k]? = some x := ⟨_, List.getElem?_eq_getElem hlt⟩
      obtain ⟨b, o, rfl, hbl, d⟩ := HIK.out.at hx
      rw [← HR.out.below.cell hbl] at d
      have hx0 := HKR.out x (List.mem_of_getElem? hx)
      obtain ⟨m, rfl⟩ := Int.eq_ofNat_of_zero_le hx0.1
      have hm : m < g.nodes.length := by omega
      have hmI : (m : Int) ≤ 1048576 := by omega
      have HC := HIH.out m _ _ HR.out (HF.out k).1 (Nat.lt_of_le_of_lt (HF.out k).2 HZF.out) hm
      have HS : Hid ((n.kids.take (k + 1)).foldl (fun t k => goW g f k.toNat t) st1 = goW g f m ((n.kids.take k).foldl (fun t k => goW g f k.toNat t) st1)) := by
        show _ = _
        have := fold_take (g := g) (f := f) hx st1
        simpa using this
      have HCH : Hid (Calls _ _ _ _ _) := HC
      clear hx hbl hx0 hm HC
      go_wp2_with fail
      refine HCH.out.mono ?_
      rintro e w1 ⟨rfl, HB⟩
      have HBH : Hid (WAt w0 B S c (.slice (some ⟨nb, no, none⟩) g.nodes.length nc) rv ((n.kids.take (k + 1)).foldl (fun t k => goW g f k.toNat t) st1) w1) := by show WAt _ _ _ _ _ _ _ _; rw [HS.out]; exact HB
      clear HB HR d
      go_wp2_with fail
      go_roundw
      case rel => exact ⟨k + 1, by go_num, hlt, HBH⟩
      case measure => simp [intOf]; omega
    · have hge : ¬ (k : Int) < (n.kids.length : Int) := by omega
      obtain rfl : k = n.kids.length := by omega
      have HJ := (HF.out n.kids.length).1
      rw [List.take_length] at HJ
      obtain ⟨t, ht⟩ : ∃ t, n.kids.foldl (fun t k => goW g f k.toNat t) st1 = t := ⟨_, rfl⟩
      rw [ht] at HJ
      have HO := HOO.out
      have HT := HR.out
      rw [List.take_length] at HT
      rw [ht] at HO HT
      have htl : t.seen.length = g.nodes.length := HJ.len
      have htl1 : i < t.seen.length := by rw [htl]; exact HIN.out.1
      have htl2 : (i : Int) < (t.seen.length : Int) := by omega
      have htl3 : (t.seen.length : Int) ≤ 1048576 := by have := HIN.out.2; omega
      obtain ⟨_, _, u2, _, _⟩ := HT.cells
      obtain ⟨_, v1⟩ := HT.seenAt htl1
      have HOH : Hid (goW g (f + 1) i st = { t with seen := t.seen.set i 2 }) := HO
      have HTH := HT.setSeen i 2
      have HTI : Hid (WAt _ _ _ _ _ _ _ _) := HTH
      clear HJ HO HT ht HTH HOO HF HR htl htl1
      go_wp2_with fail
      go_end0
      exact ⟨rfl, by rw [HOH.out]; exact HTI.out⟩
theorem go_all {w0 : World} {B S c : Nat} {nv rv : Value} {g : Gr} (hG : NlAt w0 nv g.nodes) (hk : ∀ i, ∀ k ∈ kidsOf g i, 0 ≤ k ∧ k < (g.nodes.length : Int)) (hlen : g.nodes.length ≤ 1048576) (hkl : ∀ n ∈ g.nodes, n.kids.length ≤ 1048576) : ∀ f, GoC w0 B S c nv rv g f
  | 0 => fun _ _ _ _ _ hz _ => absurd hz (Nat.not_lt_zero _)
  | f + 1 => go_step hG hk hlen hkl (go_all hG hk hlen hkl f)
end Go.Proofs.Ytgaibajkegfpoaa
