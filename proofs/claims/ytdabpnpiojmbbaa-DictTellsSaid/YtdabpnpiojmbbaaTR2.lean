/- The walks of hypostyleref.Below, TextsOf. -/
import Derived.Test.YtdabpnpiojmbbaaTR1
import Derived.Test.YtdabpnpiojmbbaaTW4
namespace Go.Proofs.Ytdabpnpiojmbbaa
open Go.RowKit
set_option linter.unusedVariables false

/-- below a text; or the same, if so -/
def pB (s : List UInt8) (same : Bool) (y : List UInt8) : Bool := decide (y < s) || (same && decide (y = s))
theorem count_step (p : List UInt8 → Bool) (b : List (List UInt8)) (k : Nat) (hk : k < b.length) : (b.take (k + 1)).countP p = (b.take k).countP p + if p (b.getD k []) then 1 else 0 := by
  rw [ttake_succ b k hk, List.countP_append]
  simp [List.countP_cons]

set_option maxHeartbeats 1000000 in
set_option maxRecDepth 100000 in
theorem rbelow_any (a : Option Addr) (c : Nat) (b : List (List UInt8)) (s : List UInt8) (same : Bool) (w : World) (hm : b.length ≤ 64) (hs : s.length ≤ maxLen) (hx : ∀ x ∈ b, x.length ≤ maxLen) (hu : Txts w w.heap.size a b) :
    Calls Try.prog 21 #[.slice a b.length c, .string (str s), .bool same] w fun e w' => e = .returned (.int .i64 (b.countP (pB s same) : Nat)) ∧ Below w.heap.size w w' := by
  have HU := Lib.hid hu
  have HTL := Lib.hid (fun k (hk : k < b.length) W => tless_any (b.getD k []) s W (hx _ (tgetD_mem b k hk)) hs)
  have HST := Lib.hid (fun k hk => count_step (pB s same) b k hk)
  have HPB := Lib.hid (fun y => show pB s same y = (decide (y < s) || (same && decide (y = s))) from rfl)
  have HTE := Lib.hid (fun y => tl_eq y s)
  have HCL := Lib.hid (fun k => show (b.take k).countP (pB s same) ≤ k from Nat.le_trans List.countP_le_length (by simp; omega))
  have HEN := Lib.hid (show (b.take b.length).countP (pB s same) = b.countP (pB s same) by rw [List.take_length])
  generalize pB s same = p at *
  generalize str s = S at *
  clear hu hx hs
  go_enter Try.func21, Try.ntmps21
  go_wp2_with fail
  go_loopw [7, 8] (fun n i wr => ∃ k : Nat, k ≤ b.length ∧ i = .int .i64 k ∧ n = .int .i64 ((b.take k).countP p : Nat) ∧ Below w.heap.size w wr) (fun _ i _ => b.length - (intOf i).toNat)
  case atStart => exact ⟨0, by omega, rfl, rfl, Below.refl _ _⟩
  case round =>
    obtain ⟨k, hk, rfl, rfl, hbw⟩ := hrel
    by_cases hlt : k < b.length
    · obtain ⟨bb, off, rfl, hbb, hcc⟩ := HU.out (fun e => by rw [e] at hlt; simp at hlt)
      have ck := (hbw.cell (p := ⟨bb, off + k, none⟩) hbb).trans (hcc k hlt)
      have HT := Lib.hid (HTL.out k hlt)
      have hst := HST.out k hlt
      rw [HPB.out] at hst
      have hte := HTE.out (b.getD k [])
      have hcl := HCL.out k
      generalize (b.take k).countP p = n at *
      generalize decide (b.getD k [] < s) = d1 at *
      generalize decide (b.getD k [] = s) = d2 at *
      generalize str (b.getD k []) = X at *
      have hkI : (k : Int) < (b.length : Int) := by omega
      have HS := Lib.hid hst
      clear hcc hst
      cases d1
      · cases same
        · go_wp2_with fail
          refine (HT.out _).mono ?_
          rintro e w1 ⟨rfl, d, rfl⟩
          go_wp2_with fail
          exact ⟨⟨k + 1, by omega, by go_num, by rw [HS.out]; rfl, below_drewN hbw _⟩, by simp [intOf]; omega⟩
        · cases d2
          · go_wp2_with fail
            refine (HT.out _).mono ?_
            rintro e w1 ⟨rfl, d, rfl⟩
            go_wp2_with fail
            exact ⟨⟨k + 1, by omega, by go_num, by rw [HS.out]; rfl, below_drewN hbw _⟩, by simp [intOf]; omega⟩
          · go_wp2_with fail
            refine (HT.out _).mono ?_
            rintro e w1 ⟨rfl, d, rfl⟩
            go_wp2_with fail
            exact ⟨⟨k + 1, by omega, by go_num, by rw [HS.out]; go_num, below_drewN hbw _⟩, by simp [intOf]; omega⟩
      · go_wp2_with fail
        refine (HT.out _).mono ?_
        rintro e w1 ⟨rfl, d, rfl⟩
        go_wp2_with fail
        exact ⟨⟨k + 1, by omega, by go_num, by rw [HS.out]; go_num, below_drewN hbw _⟩, by simp [intOf]; omega⟩
    · obtain rfl : k = b.length := by omega
      rw [HEN.out]
      go_wp2_with fail
      go_ret
      exact ⟨rfl, hbw⟩

theorem book_long {b : List (List UInt8)} (h : bookR b = 0) : fitR b = 0 := by
  unfold bookR at h
  by_cases hf : fitR b ≠ 0
  · rw [if_pos hf] at h; exact h
  · omega

set_option maxHeartbeats 2000000 in
set_option maxRecDepth 100000 in
theorem rtexts_any (a : Option Addr) (c : Nat) (b : List (List UInt8)) (a2 : Option Addr) (c2 : Nat) (cs : List Nat) (w : World) (hm : b.length ≤ maxLen) (hm2 : cs.length ≤ maxLen) (hx : ∀ x ∈ cs, x < 18446744073709551616) (hu : Txts w w.heap.size a b) (hu2 : Nums w w.heap.size a2 cs) :
    Calls Try.prog 20 #[.slice a b.length c, .slice a2 cs.length c2] w (TextsPost (textsR b cs) w) := by
  have HCK := Lib.hid (rcheck_any a c b w hm hu)
  unfold maxLen at hm hm2
  unfold textsR
  by_cases hr : bookR b ≠ 0
  · rw [if_pos hr]
    generalize bookR b = er at *
    have g1 : ((er : Int) != 0) = true := by rw [bne_iff_ne]; omega
    clear hu hu2 hx
    go_enter Try.func20, Try.ntmps20
    go_wp2_with fail
    refine (HCK.out).mono ?_
    rintro e w1 ⟨rfl, d, rfl⟩
    go_wp2_with fail
    go_ret2
    exact TextsPost.none er (below_drewN (Below.refl _ _) _)
  rw [if_neg hr]
  have hr0 : bookR b = 0 := by omega
  rw [hr0] at HCK
  have hbl := (bookR_len hr0).1
  by_cases h64 : 64 < cs.length
  · rw [if_pos h64]
    have g2 : decide ((64 : Int) < (cs.length : Int)) = true := decide_eq_true (by omega)
    clear hu hu2 hx hr hr0
    go_enter Try.func20, Try.ntmps20
    go_wp2_with fail
    refine (HCK.out).mono ?_
    rintro e w1 ⟨rfl, d, rfl⟩
    go_wp2_with fail
    go_ret2
    exact TextsPost.none 2 (below_drewN (Below.refl _ _) _)
  rw [if_neg h64]
  have g2 : decide ((64 : Int) < (cs.length : Int)) = false := decide_eq_false (by omega)
  have HU := Lib.hid hu
  have HU2 := Lib.hid hu2
  have HX := Lib.hid (fun j (h : j < cs.length) => hx _ (getD_mem cs j h))
  obtain ⟨f, hf⟩ : ∃ f : Nat → List UInt8, f = fun c => b.getD c [] := ⟨_, rfl⟩
  have HFV := Lib.hid (fun c => show f c = b.getD c [] by rw [hf])
  rw [← hf]
  obtain ⟨R, hR⟩ : ∃ R, R = (if cs.any (fun c => decide (b.length ≤ c)) then (([] : List (List UInt8)), 3) else (cs.map f, 0)) := ⟨_, rfl⟩
  rw [← hR]
  have HBAD := Lib.hid (fun j (h : j < cs.length) (hj : b.length ≤ cs.getD j 0) => show R = ([], 3) by
    rw [hR, if_pos]; exact List.any_eq_true.2 ⟨_, getD_mem cs j h, by simpa using hj⟩)
  have HGOOD := Lib.hid (fun (h : Plcs cs b.length cs.length) => show R = (cs.map f, 0) by rw [hR, h.all, if_neg (by simp)])
  have HST := Lib.hid (fun j (h : j < cs.length) => show (cs.take (j + 1)).map f = (cs.take j).map f ++ [f (cs.getD j 0)] by
    rw [List.take_succ_eq_append_getElem h, List.map_append]; congr 1; simp [List.getD, List.getElem?_eq_getElem h])
  have HEND := Lib.hid (show (cs.take cs.length).map f = cs.map f by rw [List.take_length])
  have HLN := Lib.hid (fun j (h : j ≤ cs.length) => show ((cs.take j).map f).length = j by simp; omega)
  have hcl : cs.length ≤ 64 := by omega
  have hwl : IntKind.u64.wrap (b.length : Int) = (b.length : Int) := by rw [IntKind.wrap_u64]; omega
  clear hu hu2 hx hr hr0 hf hR h64
  go_enter Try.func20, Try.ntmps20
  go_wp2_with fail
  refine (HCK.out).mono ?_
  rintro e w1 ⟨rfl, d, rfl⟩
  go_wp2_with fail
  go_loopw [7, 8] (fun v i wr => ∃ j : Nat, j ≤ cs.length ∧ i = .int .i64 j ∧ Hid (Plcs cs b.length j) ∧ TRow w.heap.size ((cs.take j).map f) v wr ∧ Below w.heap.size w wr) (fun _ i _ => cs.length - (intOf i).toNat)
  case atStart => exact ⟨0, by omega, rfl, Lib.hid (fun i hi => absurd hi (by omega)), tnilRow _ _, below_drewN (Below.refl _ _) _⟩
  case round =>
    obtain ⟨j, hj, rfl, HPL, hrow, hbw⟩ := hrel
    by_cases hlt : j < cs.length
    · obtain ⟨bb, off, rfl, hbb, hcc⟩ := HU2.out (fun e => by rw [e] at hlt; simp at hlt)
      have cj := (hbw.cell (p := ⟨bb, off + j, none⟩) hbb).trans (hcc j hlt)
      have hxj := HX.out j hlt
      have HS := Lib.hid (HST.out j hlt)
      have hln := HLN.out j hj
      have HBJ := Lib.hid (HBAD.out j hlt)
      have HPS := Lib.hid (fun h => HPL.out.succ h)
      have hfv := HFV.out (cs.getD j 0)
      generalize cs.getD j 0 = x at *
      have hjI : (j : Int) < (cs.length : Int) := by omega
      clear hcc
      by_cases hge : b.length ≤ x
      · have g3 : decide (b.length ≤ x) = true := decide_eq_true hge
        have HB3 := Lib.hid (HBJ.out hge)
        clear hge hln hfv hrow
        go_wp2_with fail
        go_ret2
        rw [HB3.out]
        exact TextsPost.none 3 hbw
      · have g3 : decide (b.length ≤ x) = false := decide_eq_false hge
        have HPN := Lib.hid (HPS.out (by omega))
        have hxb : x < b.length := by omega
        have hxI : (x : Int) < (b.length : Int) := by omega
        obtain ⟨b1, off1, rfl, hb1l, hcc1⟩ := HU.out (fun e => by rw [e] at hxb; simp at hxb)
        have cx := (hbw.cell (p := ⟨b1, off1 + x, none⟩) hb1l).trans (hcc1 x hxb)
        rw [← hfv] at cx
        generalize (cs.take j).map f = acc at *
        generalize f x = y at *
        have hlb : (acc.length + 1) * 16 ≤ 140737488355328 := by omega
        have HROW := Lib.hid hrow
        have hsz2 := hbw.size
        have hb5 : w.heap.size ≤ (wr.alloc (.cells #[.string (str y)] 9)).heap.size := by simp; omega
        generalize hY : str y = Y at *
        clear hge hln hfv hcc1 hrow
        go_wp2_with (at_builtin; refine wpList_append_onet rfl (.tmp 31) (.tmp 39) rfl w.heap.size _ acc rfl (HROW.out.alloc_ _) wr.heap.size y rfl (by rw [hY]; exact World.cell?_alloc_new _ _ _ _) hlb hb5 ?_)
        intro v' w5 hown5 hb5w
        have hbw5 : Below w.heap.size w w5 := (hbw.alloc hbw.size _).trans hb5w
        go_wp2_with fail
        exact ⟨⟨j + 1, by omega, by go_num, HPN, by rw [HS.out]; exact hown5, hbw5⟩, by simp [intOf]; omega⟩
    · obtain rfl : j = cs.length := by omega
      rw [HEND.out] at hrow
      have HRS := Lib.hid (HGOOD.out HPL.out)
      obtain ⟨a', c', rfl, ht, _⟩ := tRow_txts hrow
      have HT := Lib.hid ht
      clear hrow ht
      go_wp2_with fail
      go_ret2
      rw [HRS.out]
      exact ⟨a', c', rfl, HT.out, hbw⟩
end Go.Proofs.Ytdabpnpiojmbbaa
