/- slices.BinarySearchFunc at fs.place's closure, fs.place; slices.IndexFunc, slices.ContainsFunc at fs.entry's closure. -/
import Derived.Test.YtmjcdjekakaigaaFsCmp
namespace Go.Proofs.Ytmjcdjekakaigaa.Fs
open Go.RowKit
set_option linter.unusedVariables false

theorem up_at {l : List En} (hu : l.Pairwise (fun x y => x.name < y.name)) {i j : Nat} (hij : i < j) (hj : j < l.length) : (l.getD i nulE).name < (l.getD j nulE).name := by
  rw [getD_at l nulE i (by omega), getD_at l nulE j hj]
  exact (List.pairwise_iff_getElem.1 hu) i j (by omega) hj hij
/-- where the first that is not less stands -/
theorem pos_at (l : List En) (n : S) (k : Nat) (hk : k ≤ l.length) (h1 : ∀ i, i < k → (l.getD i nulE).name < n) (h2 : k < l.length → ¬ (l.getD k nulE).name < n) : pos l n = k := by
  unfold pos
  induction l generalizing k with
  | nil => simp at hk; subst hk; rfl
  | cons x r ih =>
    cases k with
    | zero =>
      have := h2 (by simp)
      simp at this
      rw [List.takeWhile_cons_of_neg (by simpa using this)]; rfl
    | succ k =>
      have h0 := h1 0 (by omega)
      simp at h0
      rw [List.takeWhile_cons_of_pos (by simpa using h0), List.length_cons, ih k (by simpa using hk) (fun i hi => by have := h1 (i + 1) (by omega); simpa using this) (fun hh => by have := h2 (by simpa using hh); simpa using this)]
theorem pos_le (l : List En) (n : S) : pos l n ≤ l.length := by
  unfold pos
  exact (List.takeWhile_sublist _).length_le
theorem pos_below (l : List En) (n : S) : ∀ i, i < pos l n → (l.getD i nulE).name < n := by
  induction l with
  | nil => intro i hi; simp [pos] at hi
  | cons x r ih =>
    intro i hi
    unfold pos at hi
    by_cases h : x.name < n
    · rw [List.takeWhile_cons_of_pos (by simpa using h)] at hi
      cases i with
      | zero => simpa using h
      | succ i => simpa using ih i (by unfold pos; simpa using hi)
    · rw [List.takeWhile_cons_of_neg (by simpa using h)] at hi; simp at hi
theorem pos_not (l : List En) (n : S) : pos l n < l.length → ¬ (l.getD (pos l n) nulE).name < n := by
  induction l with
  | nil => intro h; simp at h
  | cons x r ih =>
    intro hi
    by_cases h : x.name < n
    · have e : pos (x :: r) n = pos r n + 1 := by unfold pos; rw [List.takeWhile_cons_of_pos (by simpa using h)]; rfl
      rw [e] at hi ⊢
      simpa using ih (by simpa using hi)
    · have e : pos (x :: r) n = 0 := by unfold pos; rw [List.takeWhile_cons_of_neg (by simpa using h)]; rfl
      rw [e]; simpa using h
theorem lt_irr (n : S) : ¬ n < n := List.lt_irrefl n
theorem has_iff {l : List En} (hu : l.Pairwise (fun x y => x.name < y.name)) (n : S) : has l n = true ↔ pos l n < l.length ∧ (l.getD (pos l n) nulE).name = n := by
  constructor
  · intro h
    obtain ⟨x, hx, e⟩ := List.any_eq_true.1 h
    have e : x.name = n := by simpa using e
    obtain ⟨i, hi, rfl⟩ := List.mem_iff_getElem.1 hx
    have hp : pos l n = i := by
      apply pos_at l n i (by omega)
      · intro k hk
        have := up_at hu hk hi
        rw [getD_at l nulE i hi, e] at this
        exact this
      · intro _; rw [getD_at l nulE i hi, e]; exact lt_irr n
    rw [hp]
    exact ⟨hi, by rw [getD_at l nulE i hi, e]⟩
  · intro ⟨h1, h2⟩
    exact List.any_eq_true.2 ⟨_, getD_mem l nulE _ h1, by simpa using h2⟩
theorem nodeOf_at {l : List En} (hu : l.Pairwise (fun x y => x.name < y.name)) {n : S} (h : has l n = true) : nodeOf l n = (l.getD (pos l n) nulE).node := by
  obtain ⟨h1, h2⟩ := (has_iff hu n).1 h
  have h3 : ∀ i, i < pos l n → (l.getD i nulE).name ≠ n := fun i hi e => by
    have := pos_below l n i hi
    rw [e] at this; exact lt_irr n this
  generalize pos l n = p at *
  unfold nodeOf
  have : l.find? (fun e => decide (e.name = n)) = some (l.getD p nulE) := by
    rw [List.find?_eq_some_iff_append]
    refine ⟨by simpa using h2, l.take p, l.drop (p + 1), ?_, ?_⟩
    · rw [← drop_cons l nulE p h1, List.take_append_drop]
    · intro x hx
      obtain ⟨i, hi, rfl⟩ := List.mem_iff_getElem.1 hx
      have hi' : i < p := by simp at hi; omega
      have := h3 i hi'
      rw [getD_at l nulE i (by omega)] at this
      simpa using this
  rw [this]; rfl
theorem nodeOf_none {l : List En} {n : S} (h : has l n = false) : nodeOf l n = -1 := by
  unfold nodeOf
  have : l.find? (fun e => decide (e.name = n)) = none := by
    rw [List.find?_eq_none]
    intro x hx e
    have : has l n = true := List.any_eq_true.2 ⟨x, hx, by simpa using e⟩
    rw [h] at this; cases this
  rw [this]; rfl

def PlacePost (i : Nat) (b : Bool) (w : World) (e : Ending) (w' : World) : Prop := e = .returned (.tuple #[.int .i64 (i : Int), .bool b]) ∧ Below w.heap.size w w'
set_option maxHeartbeats 1000000 in
set_option maxRecDepth 100000 in
theorem bsearch_any (n : S) (a : Option Addr) (c : Nat) (l : List En) (w : World) (hm : l.length ≤ 1048576) (hu : Ens w w.heap.size a l) (hup : l.Pairwise (fun x y => x.name < y.name)) :
    Calls Try.prog 39 #[.slice a l.length c, .string (str n), .func (.func 40) #[] #[]] w (PlacePost (pos l n) (has l n) w) := by
  have HU := Lib.hid hu
  have HC := Lib.hid (fun (x : En) W => place1_any n x W)
  have HL := Lib.hid (fun j (hj : j < l.length) => compare_lt (l.getD j nulE).name n)
  have HR := Lib.hid (fun j (hj : j < l.length) => cmpS_range (l.getD j nulE).name n)
  have HP := Lib.hid (fun k (hk : k ≤ l.length) h1 h2 => pos_at l n k hk h1 h2)
  have HS := Lib.hid (fun j (hj : j < l.length) (h : (l.getD j nulE).name < n) => show ∀ i, i < j + 1 → (l.getD i nulE).name < n from fun i hi => by
    by_cases e : i = j
    · rw [e]; exact h
    · exact List.lt_trans (up_at hup (show i < j by omega) hj) h)
  have HG := Lib.hid (fun j (hj : j < l.length) (h : ¬ (l.getD j nulE).name < n) => show ∀ i, j ≤ i → i < l.length → ¬ (l.getD i nulE).name < n from fun i hi h2 hh => by
    by_cases e : i = j
    · rw [e] at hh; exact h hh
    · exact h (List.lt_trans (up_at hup (show j < i by omega) h2) hh))
  have HEND := Lib.hid (show ∀ k, pos l n = k → has l n = (decide (k < l.length) && decide (cmpS (l.getD k nulE).name n = 0)) from fun k hk => by
    have := has_iff hup n
    rw [hk] at this
    rw [compare_eq]
    by_cases h : has l n = true
    · rw [h]; obtain ⟨h1, h2⟩ := this.1 h; rw [decide_eq_true h1, decide_eq_true h2]; rfl
    · have h' : has l n = false := by simpa using h
      rw [h']
      symm
      rw [Bool.and_eq_false_iff]
      by_cases h1 : k < l.length
      · right
        exact decide_eq_false (fun h2 => h (this.2 ⟨h1, h2⟩))
      · left; exact decide_eq_false h1)
  generalize pos l n = R at *
  generalize has l n = Hs at *
  clear hu hup
  go_enter Try.func39, Try.ntmps39
  go_wp2_with fail
  go_loopw [9, 10, 11] (fun i j _ wr => ∃ p q : Nat, p ≤ q ∧ q ≤ l.length ∧ i = .int .i64 p ∧ j = .int .i64 q ∧ Below w.heap.size w wr ∧ Hid (∀ k, k < p → (l.getD k nulE).name < n) ∧ Hid (∀ k, q ≤ k → k < l.length → ¬ (l.getD k nulE).name < n)) (fun i j _ _ => (intOf j).toNat - (intOf i).toNat)
  case atStart => exact ⟨0, l.length, by omega, by omega, rfl, rfl, Below.refl _ _, Lib.hid (fun i hi => absurd hi (by omega)), Lib.hid (fun i hi h => absurd hi (by omega))⟩
  case round =>
    obtain ⟨p, q, hpq, hq, rfl, rfl, hbw, HJ, HK⟩ := hrel
    by_cases hlt : p < q
    · obtain ⟨bb, off, rfl, hbb, hcc⟩ := HU.out (fun e => by rw [e] at hq; simp at hq; omega)
      have hm1 : p ≤ (p + q) / 2 := by omega
      have hm2 : (p + q) / 2 < q := by omega
      have hml : (p + q) / 2 < l.length := by omega
      obtain ⟨k0, k1⟩ := hcc ((p + q) / 2) hml
      have c0 := (hbw.cell (p := ⟨bb, off + (p + q) / 2 * 2, none⟩) hbb).trans k0
      have c1 := (hbw.cell (p := ⟨bb, off + (p + q) / 2 * 2 + 1, none⟩) hbb).trans k1
      have hpqI : (p : Int) < (q : Int) := by omega
      have HCA := Lib.hid (show ((p : Int) + (q : Int)) / 2 = (((p + q) / 2 : Nat) : Int) by omega)
      have HCX := HC.out (l.getD ((p + q) / 2) nulE) wr
      have hr := HR.out _ hml
      have hl := HL.out _ hml
      have HSX := Lib.hid (HS.out _ hml)
      have HGX := Lib.hid (HG.out _ hml)
      unfold enV at HCX
      generalize cmpS (l.getD ((p + q) / 2) nulE).name n = r at *
      have HCY := Lib.hid HCX
      clear k0 k1 hcc HCX
      generalize (l.getD ((p + q) / 2) nulE).node = z at *
      generalize hX : str (l.getD ((p + q) / 2) nulE).name = X at *
      clear hX
      by_cases ho : r < 0
      · have hlt2 : (l.getD ((p + q) / 2) nulE).name < n := by rw [decide_eq_true ho] at hl; exact of_decide_eq_true hl.symm
        have HSY := Lib.hid (HSX.out hlt2)
        have hrI : decide (r < 0) = true := decide_eq_true ho
        clear hlt2 hl
        go_wp2_with fail
        refine (HCY.out).mono ?_
        rintro e w1 ⟨rfl, hb1⟩
        go_wp2_with fail
        exact ⟨⟨(p + q) / 2 + 1, q, by omega, hq, by rw [HCA.out]; go_num, rfl, below_then hbw hb1, HSY, HK⟩, by rw [HCA.out]; simp [intOf]; omega⟩
      · have hlt2 : ¬ (l.getD ((p + q) / 2) nulE).name < n := by rw [decide_eq_false ho] at hl; exact of_decide_eq_false hl.symm
        have HGY := Lib.hid (HGX.out hlt2)
        have hrI : decide (r < 0) = false := decide_eq_false ho
        clear hlt2 hl
        go_wp2_with fail
        refine (HCY.out).mono ?_
        rintro e w1 ⟨rfl, hb1⟩
        go_wp2_with fail
        exact ⟨⟨p, (p + q) / 2, by omega, by omega, rfl, by rw [HCA.out], below_then hbw hb1, HJ, HGY⟩, by rw [HCA.out]; simp [intOf]; omega⟩
    · obtain rfl : p = q := by omega
      have hE := HP.out p hq HJ.out (fun h => HK.out p (Nat.le_refl _) h)
      have hE2 := HEND.out p hE
      have HE := Lib.hid hE
      by_cases hend : p < l.length
      · obtain ⟨bb, off, rfl, hbb, hcc⟩ := HU.out (fun e => by rw [e] at hend; simp at hend)
        obtain ⟨k0, k1⟩ := hcc p hend
        have c0 := (hbw.cell (p := ⟨bb, off + p * 2, none⟩) hbb).trans k0
        have c1 := (hbw.cell (p := ⟨bb, off + p * 2 + 1, none⟩) hbb).trans k1
        have HCX := HC.out (l.getD p nulE) wr
        rw [decide_eq_true hend, Bool.true_and] at hE2
        unfold enV at HCX
        generalize cmpS (l.getD p nulE).name n = r at *
        have HCY := Lib.hid HCX
        have hendI : (p : Int) < (l.length : Int) := by omega
        clear k0 k1 hcc HCX
        generalize (l.getD p nulE).node = z at *
        generalize hX : str (l.getD p nulE).name = X at *
        clear hX
        have HE2 := Lib.hid (show Hs = (r == 0) by rw [hE2]; by_cases h : r = 0 <;> simp [h])
        clear hE hE2
        go_wp2_with fail
        refine (HCY.out).mono ?_
        rintro e w1 ⟨rfl, hb1⟩
        go_wp2_with fail
        go_ret2
        exact ⟨by rw [HE.out, HE2.out]; rfl, below_then hbw hb1⟩
      · rw [decide_eq_false hend, Bool.false_and] at hE2
        have hendI : decide ((p : Int) < (l.length : Int)) = false := decide_eq_false (by omega)
        have HE2 := Lib.hid hE2
        clear hE hE2
        go_wp2_with fail
        go_ret2
        exact ⟨by rw [HE.out, HE2.out]; rfl, hbw⟩
end Go.Proofs.Ytmjcdjekakaigaa.Fs
