/- The law DeltaLinear. -/
import Derived.Test.YtpjmpbpbfjemdaaDL1
import Derived.Test.YtpjmpbpbfjemdaaStep
namespace Go.Proofs.Ytpjmpbpbfjemdaa
open Go.RowKit
set_option linter.unusedVariables false

/-- two lists, number by number -/
def addL : List Nat → List Nat → List Nat
  | x :: a, y :: b => (x + y) % 18446744073709551616 :: addL a b
  | _, _ => []
theorem addL_length : ∀ a b : List Nat, a.length = b.length → (addL a b).length = a.length := by
  intro a
  induction a with
  | nil => intro b h; cases b <;> rfl
  | cons x a ih =>
    intro b h
    cases b with
    | nil => simp at h
    | cons y b => simp only [addL, List.length_cons]; rw [ih b (by simpa using h)]
theorem addL_lt : ∀ a b : List Nat, ∀ x ∈ addL a b, x < 18446744073709551616 := by
  intro a
  induction a with
  | nil => intro b x hx; simp [addL] at hx
  | cons u a ih =>
    intro b x hx
    cases b with
    | nil => simp [addL] at hx
    | cons v b =>
      simp only [addL] at hx
      rcases List.mem_cons.1 hx with h | h
      · rw [h]; exact Nat.mod_lt _ (by decide)
      · exact ih b x h
theorem addL_get : ∀ (a b : List Nat) (k : Nat), a.length = b.length → k < a.length → (addL a b).getD k 0 = (a.getD k 0 + b.getD k 0) % 18446744073709551616 := by
  intro a
  induction a with
  | nil => intro b k _ h; simp at h
  | cons x a ih =>
    intro b k hl hk
    cases b with
    | nil => simp at hl
    | cons y b =>
      cases k with
      | zero => simp only [addL, List.getD_cons_zero]
      | succ k => simp only [addL, List.getD_cons_succ]; exact ih b k (by simpa using hl) (by simpa using hk)
theorem addL_drop (a b : List Nat) (k : Nat) (hl : a.length = b.length) (hk : k < a.length) :
    addL (a.drop k) (b.drop k) = (a.getD k 0 + b.getD k 0) % 18446744073709551616 :: addL (a.drop (k + 1)) (b.drop (k + 1)) := by
  rw [List.drop_eq_getElem_cons hk, List.drop_eq_getElem_cons (show k < b.length by omega)]
  simp only [addL]
  rw [List.getD_eq_getElem?_getD, List.getD_eq_getElem?_getD, List.getElem?_eq_getElem hk, List.getElem?_eq_getElem (show k < b.length by omega), Option.getD_some, Option.getD_some]
theorem mod_fs (p q x y : Nat) : ((p + q) % 18446744073709551616 + (x + y) % 18446744073709551616) % 18446744073709551616 = ((p + x) % 18446744073709551616 + (q + y) % 18446744073709551616) % 18446744073709551616 := by
  rw [← Nat.add_mod, ← Nat.add_mod, show p + q + (x + y) = p + x + (q + y) by omega]
theorem mod_fd (x y p q : Nat) (hp : p < 18446744073709551616) (hq : q < 18446744073709551616) :
    ((x + y) % 18446744073709551616 + (18446744073709551616 - (p + q) % 18446744073709551616)) % 18446744073709551616 = ((x + (18446744073709551616 - p)) % 18446744073709551616 + (y + (18446744073709551616 - q)) % 18446744073709551616) % 18446744073709551616 := by
  rw [← Nat.add_mod, Nat.mod_add_mod]
  by_cases h : p + q < 18446744073709551616
  · rw [Nat.mod_eq_of_lt h, show x + (18446744073709551616 - p) + (y + (18446744073709551616 - q)) = x + y + (18446744073709551616 - (p + q)) + 18446744073709551616 by omega, Nat.add_mod_right]
  · have hh : (p + q) % 18446744073709551616 = p + q - 18446744073709551616 := by omega
    rw [hh, show x + (18446744073709551616 - p) + (y + (18446744073709551616 - q)) = x + y + (18446744073709551616 - (p + q - 18446744073709551616)) by omega]
theorem fd_add : ∀ (a b : List Nat) (p q : Nat), a.length = b.length → (∀ x ∈ a, x < 18446744073709551616) → (∀ x ∈ b, x < 18446744073709551616) → p < 18446744073709551616 → q < 18446744073709551616 →
    D.runF D.fd ((p + q) % 18446744073709551616) (addL a b) = addL (D.runF D.fd p a) (D.runF D.fd q b) := by
  intro a
  induction a with
  | nil => intro b p q h _ _ _ _; cases b with
    | nil => rfl
    | cons y b => simp at h
  | cons x a ih =>
    intro b p q h ha hb hp hq
    cases b with
    | nil => simp at h
    | cons y b =>
      have hx := ha x (by simp)
      have hy := hb y (by simp)
      simp only [addL, D.runF, D.fd]
      rw [ih b x y (by simpa using h) (fun z hz => ha z (by simp [hz])) (fun z hz => hb z (by simp [hz])) hx hy]
      rw [mod_fd x y p q hp hq]
theorem fs_add : ∀ (a b : List Nat) (p q : Nat), a.length = b.length → (∀ x ∈ a, x < 18446744073709551616) → (∀ x ∈ b, x < 18446744073709551616) →
    D.runF D.fs ((p + q) % 18446744073709551616) (addL a b) = addL (D.runF D.fs p a) (D.runF D.fs q b) := by
  intro a
  induction a with
  | nil => intro b p q h _ _; cases b with
    | nil => rfl
    | cons y b => simp at h
  | cons x a ih =>
    intro b p q h ha hb
    cases b with
    | nil => simp at h
    | cons y b =>
      simp only [addL, D.runF, D.fs]
      have e := mod_fs p q x y
      rw [e, ih b _ _ (by simpa using h) (fun z hz => ha z (by simp [hz])) (fun z hz => hb z (by simp [hz]))]
theorem diffs_add (a b : List Nat) (h : a.length = b.length) (ha : ∀ x ∈ a, x < 18446744073709551616) (hb : ∀ x ∈ b, x < 18446744073709551616) : D.diffs (addL a b) = addL (D.diffs a) (D.diffs b) := by
  have h1 := fd_add a b 0 0 h ha hb (by omega) (by omega)
  rw [show (0 + 0) % 18446744073709551616 = 0 by omega] at h1
  exact h1
theorem sums_add (a b : List Nat) (h : a.length = b.length) (ha : ∀ x ∈ a, x < 18446744073709551616) (hb : ∀ x ∈ b, x < 18446744073709551616) : D.sums (addL a b) = addL (D.sums a) (D.sums b) := by
  have h1 := fs_add a b 0 0 h ha hb
  rw [show (0 + 0) % 18446744073709551616 = 0 by omega] at h1
  exact h1

theorem diffs_m (l : List Nat) (M : Nat) (hM : l.length = M) (h64 : M ≤ 64) (hx : ∀ x ∈ l, x < 18446744073709551616) (A : Option Addr) (c : Nat) (W : World) (h : Nums W W.heap.size A l) :
    Calls Try.prog 14 #[.slice A M c] W (fun e w' => ∃ a c', e = .returned (.tuple #[.slice a M c', .int .i64 0]) ∧ Nums w' w'.heap.size a (D.diffs l) ∧ Below W.heap.size W w') := by
  have h1 := diffs_any A c l W hx h
  rw [if_neg (by omega), hM] at h1
  exact h1.mono fun e w' ⟨a, c', he, hn, _, _, hb⟩ => ⟨a, c', by rw [he, D.diffs_length, hM]; rfl, hn, hb⟩
theorem sums_m (l : List Nat) (M : Nat) (hM : l.length = M) (h64 : M ≤ 64) (hx : ∀ x ∈ l, x < 18446744073709551616) (A : Option Addr) (c : Nat) (W : World) (h : Nums W W.heap.size A l) :
    Calls Try.prog 15 #[.slice A M c] W (fun e w' => ∃ a c', e = .returned (.tuple #[.slice a M c', .int .i64 0]) ∧ Nums w' w'.heap.size a (D.sums l) ∧ Below W.heap.size W w') := by
  have h1 := sums_any A c l W hx h
  rw [if_neg (by omega), hM] at h1
  exact h1.mono fun e w' ⟨a, c', he, hn, _, _, hb⟩ => ⟨a, c', by rw [he, D.sums_length, hM]; rfl, hn, hb⟩

set_option maxHeartbeats 1000000 in
set_option maxRecDepth 100000 in
theorem deltaLinear_walk (w : World) (a : Option Addr) (c : Nat) (l : List Nat) (hm : l.length ≤ maxLen) (hcap : l.length ≤ c ∧ c ≤ maxLen ∧ (a = none → c = 0)) (hx : ∀ x ∈ l, x < 18446744073709551616) (hu : Nums w w.heap.size a l)
    (a2 : Option Addr) (c2 : Nat) (l2 : List Nat) (hm2 : l2.length ≤ maxLen) (hcap2 : l2.length ≤ c2 ∧ c2 ≤ maxLen ∧ (a2 = none → c2 = 0)) (hx2 : ∀ x ∈ l2, x < 18446744073709551616) (hu2 : Nums w w.heap.size a2 l2) :
    Calls Try.prog 6 #[.slice a l.length c, .slice a2 l2.length c2] w (BoolPost true w) := by
  by_cases hne : l.length ≠ l2.length
  · have g1 : ((l.length : Int) != (l2.length : Int)) = true := by rw [bne_iff_ne]; omega
    go_enter Try.func6, Try.ntmps6
    go_wp2_with fail
    refine (dbegun_any _).mono ?_
    rintro e w1 ⟨rfl, hb1⟩
    go_wp2_with fail
    go_ret
    exact ⟨rfl, hb1⟩
  have hlen : l.length = l2.length := by omega
  clear hne
  rw [← hlen]
  by_cases h64 : 64 < l.length
  · have g2 : decide ((64 : Int) < (l.length : Int)) = true := by simp; omega
    go_enter Try.func6, Try.ntmps6
    go_wp2_with fail
    refine (dbegun_any _).mono ?_
    rintro e w1 ⟨rfl, hb1⟩
    go_wp2_with fail
    go_ret
    exact ⟨rfl, hb1⟩
  have g2 : decide ((64 : Int) < (l.length : Int)) = false := by simp; omega
  have haL := addL_length l l2 hlen
  have HDA := Lib.hid (diffs_m l l.length rfl (by omega) hx)
  have HDB := Lib.hid (diffs_m l2 l.length hlen.symm (by omega) hx2)
  have HDC := Lib.hid (diffs_m (addL l l2) l.length haL (by omega) (addL_lt l l2))
  have HSA := Lib.hid (sums_m l l.length rfl (by omega) hx)
  have HSB := Lib.hid (sums_m l2 l.length hlen.symm (by omega) hx2)
  have HSC := Lib.hid (sums_m (addL l l2) l.length haL (by omega) (addL_lt l l2))
  have l1 := D.diffs_length l
  have l3 : (D.diffs l2).length = l.length := by rw [D.diffs_length, hlen]
  have l4 := D.sums_length l
  have l5 : (D.sums l2).length = l.length := by rw [D.sums_length, hlen]
  have l6 : (D.diffs (addL l l2)).length = l.length := by rw [D.diffs_length, haL]
  have l7 : (D.sums (addL l l2)).length = l.length := by rw [D.sums_length, haL]
  have HZ := Lib.hid (fun k (h : k < l.length) => show (D.diffs (addL l l2)).getD k 0 = ((D.diffs l).getD k 0 + (D.diffs l2).getD k 0) % 18446744073709551616 by rw [diffs_add l l2 hlen hx hx2]; exact addL_get (D.diffs l) (D.diffs l2) k (by omega) (by omega))
  have HR := Lib.hid (fun k (h : k < l.length) => show (D.sums (addL l l2)).getD k 0 = ((D.sums l).getD k 0 + (D.sums l2).getD k 0) % 18446744073709551616 by rw [sums_add l l2 hlen hx hx2]; exact addL_get (D.sums l) (D.sums l2) k (by omega) (by omega))
  generalize D.diffs l = X at *
  generalize D.diffs l2 = Y at *
  generalize D.diffs (addL l l2) = Z at *
  generalize D.sums l = P at *
  generalize D.sums l2 = Q at *
  generalize D.sums (addL l l2) = R at *
  have HU := Lib.hid hu
  have HU2 := Lib.hid hu2
  have HDROP := Lib.hid (fun k hk => addL_drop l l2 k hlen hk)
  have HL0 := Lib.hid (show addL (l.drop l.length) (l2.drop l.length) = [] by rw [List.drop_length]; rfl)
  have HLEN := Lib.hid hlen
  clear hu hu2 hx hx2 hlen
  go_enter Try.func6, Try.ntmps6
  go_wp2_with fail
  refine (dbegun_any _).mono ?_
  rintro e w1 ⟨rfl, hb1⟩
  go_wp2_with fail
  go_loopw [5, 6] (fun v i wr => ∃ (k : Nat) (xs : List Nat), k ≤ l.length ∧ i = .int .i64 k ∧ xs.length = k ∧ Hid (xs ++ addL (l.drop k) (l2.drop k) = addL l l2) ∧ NumRow w.heap.size xs v wr ∧ Below w.heap.size w wr) (fun _ i _ => l.length - (intOf i).toNat)
  case atStart => exact ⟨0, [], by omega, rfl, rfl, Lib.hid rfl, ⟨rfl, Or.inl ⟨rfl, rfl⟩⟩, hb1⟩
  case round =>
    obtain ⟨k, xs, hk, rfl, hxl, HK, hrow, hbw⟩ := hrel
    by_cases hlt : k < l.length
    · obtain ⟨b, off, rfl, hb, hcc⟩ := HU.out (fun e => by rw [e] at hlt; simp at hlt)
      obtain ⟨b2, off2, rfl, hb2, hcc2⟩ := HU2.out (fun e => by have h := HLEN.out; rw [e, List.length_nil] at h; omega)
      have ck := (hbw.cell (p := ⟨b, off + k, none⟩) hb).trans (hcc k hlt)
      have ck2 := (hbw.cell (p := ⟨b2, off2 + k, none⟩) hb2).trans (hcc2 k (by have := HLEN.out; omega))
      have HK2 := HK.out
      rw [HDROP.out k hlt] at HK2
      generalize l.getD k 0 = x at *
      generalize l2.getD k 0 = y at *
      have hwrap : IntKind.u64.wrap ((x : Int) + (y : Int)) = (((x + y) % 18446744073709551616 : Nat) : Int) := by rw [IntKind.wrap_u64]; omega
      generalize (x + y) % 18446744073709551616 = z at *
      have HK3 := Lib.hid (show (xs ++ [z]) ++ addL (l.drop (k + 1)) (l2.drop (k + 1)) = addL l l2 by rw [List.append_assoc]; exact HK2)
      have HROW := Lib.hid hrow
      have HXL := Lib.hid hxl
      have hlb : (xs.length + 1) * 8 ≤ 140737488355328 := by omega
      have hb5 : w.heap.size ≤ (wr.alloc (.cells #[.int .u64 (z : Int)] 23)).heap.size := by have := hbw.size; simp; omega
      have hkI : (k : Int) < (l.length : Int) := by omega
      clear hrow hxl HK2 hcc hcc2
      go_wp2_with fail
      go_region_held3 (fun W => W.cell? ⟨b, off + k, none⟩ = some (.int .u64 (x : Int)) ∧ W.cell? ⟨b2, off2 + k, none⟩ = some (.int .u64 (y : Int)))
        (first
          | go_keep
          | (go_split_ands; refine ⟨?_, ?_⟩ <;> (rw [hg5.cell (by assumption)]; assumption)))
        ((refine step_append_one rfl (.tmp 38) (.tmp 48) rfl w.heap.size _ xs rfl ((HROW.out.alloc _).drew) wr.heap.size z rfl (by simp) hlb hb5 ?_; intro v' w5 hown5 hg5))
      go_wp2_with fail
      exact ⟨⟨k + 1, xs ++ [z], by omega, by go_num, by rw [List.length_append, HXL.out]; rfl, HK3, hown5, ((hbw.alloc hbw.size _).drew).trans hg5⟩, by simp [intOf]; omega⟩
    · obtain rfl : k = l.length := by omega
      have hxL : xs = addL l l2 := by have h := HK.out; rw [HL0.out, List.append_nil] at h; exact h
      obtain ⟨ac, cc, rfl, hnum⟩ := numRow_nums hrow
      rw [hxl]
      rw [hxL] at hnum
      have HN := Lib.hid hnum
      have huw := HU.out.next hbw
      have huw2 := HU2.out.next hbw
      clear hnum hrow HK HL0 HDROP
      go_wp2_with fail
      refine (HDA.out _ _ _ huw).mono ?_
      rintro e w2 ⟨x1, y1, rfl, n1, b1⟩
      have t1 := below_then hbw b1
      go_wp2_with fail
      refine (HDB.out _ _ _ (huw2.next b1)).mono ?_
      rintro e w3 ⟨x2, y2, rfl, n2, b2⟩
      have t2 := below_then b1 b2
      go_wp2_with fail
      refine (HDC.out _ _ _ (HN.out.next t2)).mono ?_
      rintro e w4 ⟨x3, y3, rfl, n3, b3⟩
      have t3 := below_then t2 b3
      go_wp2_with fail
      refine (HSA.out _ _ _ (huw.next t3)).mono ?_
      rintro e w5 ⟨x4, y4, rfl, n4, b4⟩
      have t4 := below_then t3 b4
      go_wp2_with fail
      refine (HSB.out _ _ _ (huw2.next t4)).mono ?_
      rintro e w6 ⟨x5, y5, rfl, n5, b5⟩
      have t5 := below_then t4 b5
      go_wp2_with fail
      refine (HSC.out _ _ _ (HN.out.next t5)).mono ?_
      rintro e w7 ⟨x6, y6, rfl, n6, b6⟩
      have t6 := below_then hbw (below_then t5 b6)
      have N1 := Lib.hid (n1.next (below_then (below_then (below_then (below_then b2 b3) b4) b5) b6))
      have N2 := Lib.hid (n2.next (below_then (below_then (below_then b3 b4) b5) b6))
      have N3 := Lib.hid (n3.next (below_then (below_then b4 b5) b6))
      have N4 := Lib.hid (n4.next (below_then b5 b6))
      have N5 := Lib.hid (n5.next b6)
      have N6 := Lib.hid n6
      clear n1 n2 n3 n4 n5 n6 huw huw2 HN
      go_wp2_with fail
      go_loopw [19] (fun i wr => ∃ k d : Nat, k ≤ l.length ∧ i = .int .i64 k ∧ wr = w7.drewN d) (fun i _ => l.length - (intOf i).toNat)
      case atStart => exact ⟨0, 0, by omega, rfl, rfl⟩
      case round =>
        obtain ⟨k, d, hk, rfl, rfl⟩ := hrel
        by_cases hlt : k < l.length
        · have ne : ∀ L : List Nat, L.length = l.length → L ≠ [] := fun L h e => by rw [e] at h; simp at h; omega
          obtain ⟨p1, o1, rfl, _, d1⟩ := N1.out (ne X l1)
          obtain ⟨p2, o2, rfl, _, d2⟩ := N2.out (ne Y (by omega))
          obtain ⟨p3, o3, rfl, _, d3⟩ := N3.out (ne Z (by omega))
          obtain ⟨p4, o4, rfl, _, d4⟩ := N4.out (ne P l4)
          obtain ⟨p5, o5, rfl, _, d5⟩ := N5.out (ne Q (by omega))
          obtain ⟨p6, o6, rfl, _, d6⟩ := N6.out (ne R (by omega))
          have e1 := d1 k (by omega)
          have e2 := d2 k (by omega)
          have e3 := d3 k (by omega)
          have e4 := d4 k (by omega)
          have e5 := d5 k (by omega)
          have e6 := d6 k (by omega)
          rw [HZ.out k hlt] at e3
          rw [HR.out k hlt] at e6
          generalize X.getD k 0 = xx at *
          generalize Y.getD k 0 = yy at *
          generalize P.getD k 0 = pp at *
          generalize Q.getD k 0 = qq at *
          have hw1 : IntKind.u64.wrap ((xx : Int) + (yy : Int)) = (((xx + yy) % 18446744073709551616 : Nat) : Int) := by rw [IntKind.wrap_u64]; omega
          have hw2 : IntKind.u64.wrap ((pp : Int) + (qq : Int)) = (((pp + qq) % 18446744073709551616 : Nat) : Int) := by rw [IntKind.wrap_u64]; omega
          generalize (xx + yy) % 18446744073709551616 = s1 at *
          generalize (pp + qq) % 18446744073709551616 = s2 at *
          clear d1 d2 d3 d4 d5 d6 N1 N2 N3 N4 N5 N6
          go_wp2_with fail
          go_quiet (fail)
          go_wp2_with fail
          exact ⟨⟨k + 1, d + nq, by omega, by go_num, rfl⟩, by simp [intOf]; omega⟩
        · obtain rfl : k = l.length := by omega
          go_wp2_with fail
          go_ret
          exact ⟨rfl, below_drewN t6 _⟩
end Go.Proofs.Ytpjmpbpbfjemdaa
