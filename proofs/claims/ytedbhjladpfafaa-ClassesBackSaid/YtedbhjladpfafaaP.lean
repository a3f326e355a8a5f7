/- Layer 3: Print. -/
import Derived.Test.YtedbhjladpfafaaO
import Derived.Test.YtedbhjladpfafaaRuns
namespace Go.Proofs.Ytedbhjladpfafaa
open Go.RowKit
/-- 'string(b)' of a row of the call's own. -/
theorem conv_own {B n : Nat} {v : Value} {l : List UInt8} {w : World} (h : w.ownsRow B 5 1 v n (l.map u8v)) : (convert 22 9 v).run Try.prog w = .ok (.string ⟨l.toArray⟩) w := by
  have hn : n = l.length := by have := h.1; simp at this; omega
  rcases h.2 with ⟨rfl, h0⟩ | ⟨g, cap, cur, rfl, _⟩
  · have : l = [] := by apply List.eq_nil_of_length_eq_zero; omega
    subst this
    exact Lib.run_convert_nil_bytes w _ _ 5 0 Try.underlying22 Try.underlying5 Try.underlying9
  · subst hn
    have hc := h.cells (g := g) rfl
    exact run_convert_bytes_back (P := Try.prog) w 22 9 5 ⟨g, 0, none⟩ cap l Try.underlying22 Try.underlying5 Try.underlying9 (fun j hj => hc j _ (by simp [hj]; rfl))
/-- The items of a set. -/
def itemsB (rs : List (Nat × Nat)) : List UInt8 := rs.flatMap fun r => runT r.1 r.2
theorem itemsB_succ {rs : List (Nat × Nat)} {k : Nat} {r : Nat × Nat} (h : rs[k]? = some r) : itemsB (rs.take (k + 1)) = itemsB (rs.take k) ++ runT r.1 r.2 := by
  unfold itemsB
  rw [List.take_add_one, h, List.flatMap_append]
  simp
theorem itemsB_len (rs : List (Nat × Nat)) : (itemsB rs).length ≤ 9 * rs.length := by
  induction rs with
  | nil => simp [itemsB]
  | cons r rs ih =>
    have := runT_len r.1 r.2
    unfold itemsB at *
    rw [List.flatMap_cons, List.length_append]
    simp only [List.length_cons]; omega
/-- More than half of all bytes? -/
def manyB (p : Nat → Bool) : Bool := decide (128 < (listB p).length)
def printB (p : Nat → Bool) : List UInt8 := if manyB p then [91, 94] ++ itemsB (runsB fun i => !p i) ++ [93] else [91] ++ itemsB (runsB p) ++ [93]
theorem own_one (w : World) (c : UInt8) (B : Nat) (hB : B ≤ w.heap.size) : (w.alloc (.cells #[.int .u8 (c.toNat : Int)] 5)).ownsRow B 5 1 (.slice (some ⟨w.heap.size, 0, none⟩) 1 1) 1 ([c].map u8v) :=
  ⟨rfl, .inr ⟨w.heap.size, 1, #[.int .u8 (c.toNat : Int)], rfl, hB, heap_alloc_new _ _, Nat.le_refl _, by simp [maxLen], rfl, rfl⟩⟩
theorem own_keepT {W W' : World} {B size n : Nat} {e : TypeId} {v : Value} {xs : List Value} (h : W.ownsRow B e size v n xs) (hk : KeepT W W') (he : e ≠ 5) : W'.ownsRow B e size v n xs := by
  refine ⟨h.1, ?_⟩
  rcases h.2 with h | ⟨g, cap, cur, rfl, hb, hg, rest⟩
  · exact .inl h
  · exact .inr ⟨g, cap, cur, rfl, hb, hk g _ _ _ he hg, rest⟩
theorem own_slice {W : World} {B size n : Nat} {e : TypeId} {v : Value} {xs : List Value} (h : W.ownsRow B e size v n xs) : ∃ p c, v = .slice p n c := by
  rcases h.2 with ⟨rfl, rfl⟩ | ⟨g, cap, cur, rfl, _⟩
  · exact ⟨none, 0, rfl⟩
  · exact ⟨_, _, rfl⟩
theorem own_pos {W : World} {B size n : Nat} {e : TypeId} {p : Option Addr} {c : Nat} {xs : List Value} (h : W.ownsRow B e size (.slice p n c) n xs) (hn : 0 < n) : ∃ g, p = some ⟨g, 0, none⟩ := by
  rcases h.2 with ⟨h, h0⟩ | ⟨g, cap, cur, h, _⟩
  · omega
  · cases h; exact ⟨g, rfl⟩
theorem own_put {W W' : World} {B C size n : Nat} {e : TypeId} {v : Value} {xs : List Value} (h : W.ownsRow B e size v n xs) (hp : PutAt C W W') (hne : v.ownBlock ≠ some C) : W'.ownsRow B e size v n xs := by
  refine ⟨h.1, ?_⟩
  rcases h.2 with h | ⟨g, cap, cur, rfl, hb, hg, rest⟩
  · exact .inl h
  · exact .inr ⟨g, cap, cur, rfl, hb, (hp.block g (fun e => hne (by rw [e]; rfl))).trans hg, rest⟩
/-- What the loop of Print keeps. -/
def PrI (w : World) (B2 : Nat) (rs : List (Nat × Nat)) (hd : List UInt8) (vr : Value) (k : Nat) (v : Value) (W : World) : Prop :=
  W.ownsRow w.heap.size 5 1 v (hd.length + (itemsB (rs.take k)).length) ((hd ++ itemsB (rs.take k)).map u8v) ∧ W.ownsRow B2 47 2 vr rs.length (rs.flatMap encR) ∧ Below w.heap.size w W
set_option maxHeartbeats 800000 in
set_option maxRecDepth 100000 in
theorem print_any (p : Nat → Bool) (w : World) : Calls Try.prog 37 #[sv p] w fun e w' => e = .returned (.string ⟨(printB p).toArray⟩) ∧ Below w.heap.size w w' := by
  obtain ⟨i0, hi, hz0, hz1, hz2⟩ := info_parts info_u8
  have g1 : SA ((w.alloc (setO p)).alloc (.cells #[.int .u8 91] 5)) w.heap.size p := (SA.new w p).alloc _
  have o1 : ((w.alloc (setO p)).alloc (.cells #[.int .u8 91] 5)).ownsRow w.heap.size 5 1 (.slice (some ⟨w.heap.size + 1, 0, none⟩) 1 1) 1 ([91].map u8v) := by
    have := own_one (w.alloc (setO p)) 91 w.heap.size (by simp)
    simpa using this
  have hB1 : Below w.heap.size w ((w.alloc (setO p)).alloc (.cells #[.int .u8 91] 5)) := ((Below.refl _ w).alloc (Nat.le_refl _) _).alloc (by simp) _
  have CO := Lib.hid (fun w => count_any p w)
  have NO := Lib.hid (fun w => not_any p w)
  have RU := Lib.hid (fun q w => runs_any q w)
  rcases hm : manyB p with _ | _
  · have hmb : decide ((128 : Int) < ((listB p).length : Int)) = false := decide_eq_false (by unfold manyB at hm; simp at hm; omega)
    have hpr := Lib.hid (show printB p = [91] ++ itemsB (runsB p) ++ [93] by unfold printB; rw [if_neg (by simp [hm])])
    clear hm
    go_enter Try.func37, Try.ntmps37
    go_wp2_with (first
      | (refine wpList_get rfl _ rfl _ rfl _ g1 ?_)
      | (go_at_call 30; refine (CO.out _).mono ?_; rintro e w2 ⟨rfl, hb2⟩
         have s2 := g1.below hb2 g1.lt
         have o2 := own_from o1 (grown_of hb2) (fun r e => by cases e) (n0 := 0)
         have hB2 := hB1.trans (hb2.mono hB1.size)
         clear o1 hB1 g1)
      | (refine wpList_get rfl _ rfl _ rfl _ s2 ?_)
      | (go_at_call 35; refine (RU.out _ _).mono ?_; rintro e w3 ⟨vr, rfl, hr3, hb3⟩
         obtain ⟨pp, cc, rfl⟩ := own_slice hr3
         have o3 := own_from o2 (grown_of hb3) (fun r e => by cases e) (n0 := 0)
         have hB3 := hB2.trans (hb3.mono hB2.size)
         clear o2 hB2 s2)
      )
    have hh : ([91]).length ≤ 2 := by decide
    have hlen := runsB_len p
    have hok := fun r h => runsB_ok (p := p) (r := r) h
    obtain ⟨rs, hrs⟩ : ∃ rs, rs = runsB p := ⟨_, rfl⟩
    rw [← hrs] at hr3 hlen hok hpr ⊢
    obtain ⟨n, hn⟩ : ∃ n, n = rs.length := ⟨_, rfl⟩
    rw [← hn] at hr3 hlen ⊢
    have HN := Lib.hid hn
    have HK := Lib.hid hok
    clear hn hok hrs
    go_loopw [3, 5, 18] (fun v _ i wr => ∃ k : Nat, k ≤ n ∧ i = .int .i64 k ∧ PrI w w2.heap.size rs [91] (.slice pp n cc) k v wr) (fun _ _ i _ => n - (intOf i).toNat)
    case atStart => exact ⟨0, Nat.zero_le _, rfl, cast_own o3 (by simp [itemsB]) (by simp [itemsB]), by rw [← HN.out]; exact hr3, hB3⟩
    case round =>
      obtain ⟨k, hk, rfl, ho, hr, hB⟩ := hrel
      rw [← HN.out] at hr
      have hil := itemsB_len (rs.take k)
      have htl : (rs.take k).length ≤ k := List.length_take_le _ _
      clear hr3 o3 hB3
      by_cases hlt : k < n
      · have hltb : decide ((k : Int) < (n : Int)) = true := decide_eq_true (by omega)
        have hkl : (k : Int) < (n : Int) := by omega
        obtain ⟨⟨lo, up⟩, hx⟩ : ∃ r, rs[k]? = some r := ⟨_, List.getElem?_eq_getElem (by rw [← HN.out]; exact hlt)⟩
        obtain ⟨hlu, hu8⟩ := HK.out _ (List.mem_of_getElem? hx)
        obtain ⟨g, rfl⟩ := own_pos hr (by omega)
        have hc := flat_get rs k _ hx
        have c1 := (World.ownsRow.cellAt hr (k * 2) (by omega)).trans hc.1
        have c2 := (World.ownsRow.cellAt hr (k * 2 + 1) (by omega)).trans hc.2
        simp only [u8n] at c1 c2
        have HX := Lib.hid (itemsB_succ hx)
        have AP := Lib.hid (appR_any w.heap.size _ _ _ lo up (wr.alloc (.cells #[.int .u8 (lo : Int), .int .u8 (up : Int)] 47)) hlu hu8 (ho.alloc _) (by have := hB.size; simp; omega) (by omega))
        have HR := Lib.hid (hr.alloc (.cells #[.int .u8 (lo : Int), .int .u8 (up : Int)] 47))
        clear hx hc ho hil htl hr
        go_wp2_with (first
          | (go_at_call 49; refine AP.out.mono ?_; rintro e w5 ⟨v5, rfl, o5, hb5, hk5⟩))
        go_roundw
        case rel =>
          refine ⟨k + 1, by omega, by go_num, cast_own o5 (by rw [HX.out]; simp) (by rw [HX.out]; simp; omega), ?_, (hB.alloc hB.size _).trans hb5⟩
          rw [← HN.out]
          exact own_keepT HR.out hk5 (by decide)
        case measure => simp [intOf]; omega
      · obtain rfl : k = n := by omega
        have hltb : decide ((k : Int) < (k : Int)) = false := decide_eq_false (by omega)
        have ho' := ho
        rw [HN.out, List.take_length] at ho'
        have hil' := itemsB_len rs
        rw [← HN.out] at hil'
        have hn' : ([91]).length + (itemsB rs).length ≤ 100000 := by omega
        have hbs := hB.size
        clear ho hil htl hil' hr
        go_wp2_with (first
          | (at_builtin; refine wpList_append_own _ rfl _ _ 22 rfl _ 5 i0 (.int .u8 0) 1 1 Try.underlying22 hi hz0 hz1 hz2 rfl (by decide) _ _ _ rfl (ho'.alloc _) ⟨wr.heap.size, 0, none⟩ ([93]).length ([93]).length (([93]).map u8v) rfl rfl (new_cells_at _ wr.heap.size (by simp) [93]) (u8v_one _) ?c3 ?c4 ?c5 ?_)
          )
        case c3 => have h93 : ([93] : List UInt8).length = 1 := rfl; simp only [maxLen]; omega
        case c4 => have h93 : ([93] : List UInt8).length = 1 := rfl; omega
        case c5 => simp; omega
        intro v7 w7 o7' hg7 _
        have o7 : w7.ownsRow w.heap.size 5 1 v7 (([91]).length + (itemsB rs).length + 1) (([91] ++ itemsB rs ++ [93]).map u8v) := by simpa using o7'
        have hcv := conv_own o7
        have hb7 : Below w.heap.size w w7 := (hB.alloc (by omega) _).grown hg7 (by simp; omega) (fun k hk => (ho'.lt k hk).1)
        clear o7' hg7 ho' o7
        go_wp2
        go_ret
        exact ⟨by rw [hpr.out]; rfl, hb7⟩
  · have hmb : decide ((128 : Int) < ((listB p).length : Int)) = true := decide_eq_true (by unfold manyB at hm; simp at hm; omega)
    have hpr := Lib.hid (show printB p = [91, 94] ++ itemsB (runsB fun i => !p i) ++ [93] by unfold printB; rw [if_pos hm])
    clear hm
    go_enter Try.func37, Try.ntmps37
    go_wp2_with (first
      | (refine wpList_get rfl _ rfl _ rfl _ g1 ?_)
      | (go_at_call 30; refine (CO.out _).mono ?_; rintro e w1 ⟨rfl, hb2⟩
         have s2 := g1.below hb2 g1.lt
         have o2 := own_from o1 (grown_of hb2) (fun r e => by cases e) (n0 := 0)
         have hB2 := hB1.trans (hb2.mono hB1.size)
         have hbs2 := hB2.size
         clear o1 hB1 g1)
      | (at_builtin; refine wpList_append_own _ rfl _ _ 22 rfl _ 5 i0 (.int .u8 0) 1 1 Try.underlying22 hi hz0 hz1 hz2 rfl (by decide) _ _ _ rfl (o2.alloc _) ⟨w1.heap.size, 0, none⟩ ([94]).length ([94]).length (([94]).map u8v) rfl rfl (new_cells_at _ w1.heap.size (by simp) [94]) (u8v_one _) ?c3 ?c4 ?c5 ?_)
      )
    case c3 => simp [maxLen]
    case c4 => simp
    case c5 => simp; omega
    intro v4 w4 o4' hg4 _
    have o4 : w4.ownsRow w.heap.size 5 1 v4 2 ([91, 94].map u8v) := o4'
    have hB4 : Below w.heap.size w w4 := (hB2.alloc hbs2 _).grown hg4 (by simp; omega) (fun k hk => (o2.lt k hk).1)
    have s4 : SA w4 w.heap.size p := app_keep o2 hg4 _ _ _ _ (by decide) s2
    clear o4' hg4 o2 s2 hB2
    go_wp2_with (first
      | (refine wpList_get rfl _ rfl _ rfl _ s4 ?_)
      | (go_at_call 26; refine (NO.out _).mono ?_; rintro e w5 ⟨rfl, hb5⟩
         have s5 := s4.below hb5 s4.lt
         have o5 := own_from o4 (grown_of hb5) (fun r e => by cases e) (n0 := 0)
         have hB5 := hB4.trans (hb5.mono hB4.size)
         clear o4 hB4 s4)
      | (refine wpList_put rfl _ _ rfl _ rfl _ (fun i => !p i) rfl s5 ?_; (intro w2 s2 p2; have hne := (not_own s5 (by decide) o5).symm; have o6 := own_put o5 p2 hne; have hB6 := hB5.trans (p2.below (Nat.le_refl _)); clear o5 hB5))
      | (refine wpList_get rfl _ rfl _ rfl _ s2 ?_)
      | (go_at_call 35; refine (RU.out _ _).mono ?_; rintro e w3 ⟨vr, rfl, hr3, hb3⟩
         obtain ⟨pp, cc, rfl⟩ := own_slice hr3
         have o3 := own_from o6 (grown_of hb3) (fun r e => by cases e) (n0 := 0)
         have hB3 := hB6.trans (hb3.mono hB6.size)
         clear o6 hB6 s2)
      )
    have hh : ([91, 94]).length ≤ 2 := by decide
    have hlen := runsB_len (fun i => !p i)
    have hok := fun r h => runsB_ok (p := (fun i => !p i)) (r := r) h
    obtain ⟨rs, hrs⟩ : ∃ rs, rs = runsB (fun i => !p i) := ⟨_, rfl⟩
    rw [← hrs] at hr3 hlen hok hpr ⊢
    obtain ⟨n, hn⟩ : ∃ n, n = rs.length := ⟨_, rfl⟩
    rw [← hn] at hr3 hlen ⊢
    have HN := Lib.hid hn
    have HK := Lib.hid hok
    clear hn hok hrs
    go_loopw [3, 5, 18] (fun v _ i wr => ∃ k : Nat, k ≤ n ∧ i = .int .i64 k ∧ PrI w w2.heap.size rs [91, 94] (.slice pp n cc) k v wr) (fun _ _ i _ => n - (intOf i).toNat)
    case atStart => exact ⟨0, Nat.zero_le _, rfl, cast_own o3 (by simp [itemsB]) (by simp [itemsB]), by rw [← HN.out]; exact hr3, hB3⟩
    case round =>
      obtain ⟨k, hk, rfl, ho, hr, hB⟩ := hrel
      rw [← HN.out] at hr
      have hil := itemsB_len (rs.take k)
      have htl : (rs.take k).length ≤ k := List.length_take_le _ _
      clear hr3 o3 hB3
      by_cases hlt : k < n
      · have hltb : decide ((k : Int) < (n : Int)) = true := decide_eq_true (by omega)
        have hkl : (k : Int) < (n : Int) := by omega
        obtain ⟨⟨lo, up⟩, hx⟩ : ∃ r, rs[k]? = some r := ⟨_, List.getElem?_eq_getElem (by rw [← HN.out]; exact hlt)⟩
        obtain ⟨hlu, hu8⟩ := HK.out _ (List.mem_of_getElem? hx)
        obtain ⟨g, rfl⟩ := own_pos hr (by omega)
        have hc := flat_get rs k _ hx
        have c1 := (World.ownsRow.cellAt hr (k * 2) (by omega)).trans hc.1
        have c2 := (World.ownsRow.cellAt hr (k * 2 + 1) (by omega)).trans hc.2
        simp only [u8n] at c1 c2
        have HX := Lib.hid (itemsB_succ hx)
        have AP := Lib.hid (appR_any w.heap.size _ _ _ lo up (wr.alloc (.cells #[.int .u8 (lo : Int), .int .u8 (up : Int)] 47)) hlu hu8 (ho.alloc _) (by have := hB.size; simp; omega) (by omega))
        have HR := Lib.hid (hr.alloc (.cells #[.int .u8 (lo : Int), .int .u8 (up : Int)] 47))
        clear hx hc ho hil htl hr
        go_wp2_with (first
          | (go_at_call 49; refine AP.out.mono ?_; rintro e w5 ⟨v5, rfl, o5, hb5, hk5⟩))
        go_roundw
        case rel =>
          refine ⟨k + 1, by omega, by go_num, cast_own o5 (by rw [HX.out]; simp) (by rw [HX.out]; simp; omega), ?_, (hB.alloc hB.size _).trans hb5⟩
          rw [← HN.out]
          exact own_keepT HR.out hk5 (by decide)
        case measure => simp [intOf]; omega
      · obtain rfl : k = n := by omega
        have hltb : decide ((k : Int) < (k : Int)) = false := decide_eq_false (by omega)
        have ho' := ho
        rw [HN.out, List.take_length] at ho'
        have hil' := itemsB_len rs
        rw [← HN.out] at hil'
        have hn' : ([91, 94]).length + (itemsB rs).length ≤ 100000 := by omega
        have hbs := hB.size
        clear ho hil htl hil' hr
        go_wp2_with (first
          | (at_builtin; refine wpList_append_own _ rfl _ _ 22 rfl _ 5 i0 (.int .u8 0) 1 1 Try.underlying22 hi hz0 hz1 hz2 rfl (by decide) _ _ _ rfl (ho'.alloc _) ⟨wr.heap.size, 0, none⟩ ([93]).length ([93]).length (([93]).map u8v) rfl rfl (new_cells_at _ wr.heap.size (by simp) [93]) (u8v_one _) ?c3 ?c4 ?c5 ?_)
          )
        case c3 => have h93 : ([93] : List UInt8).length = 1 := rfl; simp only [maxLen]; omega
        case c4 => have h93 : ([93] : List UInt8).length = 1 := rfl; omega
        case c5 => simp; omega
        intro v7 w7 o7' hg7 _
        have o7 : w7.ownsRow w.heap.size 5 1 v7 (([91, 94]).length + (itemsB rs).length + 1) (([91, 94] ++ itemsB rs ++ [93]).map u8v) := by simpa using o7'
        have hcv := conv_own o7
        have hb7 : Below w.heap.size w w7 := (hB.alloc (by omega) _).grown hg7 (by simp; omega) (fun k hk => (ho'.lt k hk).1)
        clear o7' hg7 ho' o7
        go_wp2
        go_ret
        exact ⟨by rw [hpr.out]; rfl, hb7⟩
end Go.Proofs.Ytedbhjladpfafaa
