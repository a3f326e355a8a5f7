/- WHAT IS PROVED: the law dragnetlaw01.WordsLists returns true for every list of numbers and every string, and changes nothing that was there; the package-level variables hold what the program's text lays in them (tied). -/
import Derived.Test.YtoapfldmkpobmaaGreatDoorDoor0
import Derived.Test.YtoapfldmkpobmaaGreatDoorZ
import Derived.Test.YtoapfldmkpobmaaGreatDoorW
import Derived.ChangeSlices
import Derived.ProofKit
import Derived.LaidMore
import Derived.Shelf.Vars
import Derived.Lay
import Derived.Test.YtoapfldmkpobmaaGreatDoorRc
import Derived.Test.YtoapfldmkpobmaaGreatDoorRe
/- A slice of fields that came in, opened. -/
namespace Go.Proofs.YtoapfldmkpobmaaGreatDoor
open Go.ChangeShapes Go.WideShapes Go.ChangeAt Go.ChangeMaps Go.RowKit
set_option maxRecDepth 100000 in
/-- A slice of fields that came in. -/
theorem open_fields {H : Type} {enc : TypeId × Value → H} {W : World} {r : Reach} {b0 fuel : Nat} {v : Value} {d : DataW H} {ps : List MemPlace} (hval : Value.okWide Tryz.prog W r b0 31 v)
    (h : DataW.trod enc Tryz.prog W 0 (fun _ => true) true fuel 31 v.cells.toList = some (d, ps)) : ∃ xs, FSl W v xs := by
  obtain ⟨a, len, cap, rfl⟩ := okWide_slice Tryz.underlying31 hval
  rcases DataW.trod_slice Tryz.underlying31 h with ⟨hcs, _⟩ | ⟨x, l, c, elems, rest, n, _, hcs, _, _, hl, hm, hel, hat, _⟩
  · simp [Value.cells] at hcs
    obtain ⟨rfl, rfl, rfl⟩ := hcs
    exact ⟨[], none, 0, rfl, fun i x hx => by simp at hx⟩
  · simp [Value.cells] at hcs
    obtain ⟨rfl, rfl, rfl⟩ := hcs
    have ce : Tryz.prog.cellsOf 39 = 2 := by kernel_rfl
    have cs : Tryz.prog.cellsOf 9 = 1 := by kernel_rfl
    have cb : Tryz.prog.cellsOf 4 = 1 := by kernel_rfl
    rw [ce] at hat
    have key : ∀ i, i < len → ∃ s q, W.cell? ((x.add (i * 2)).add 0) = some (.string s) ∧ W.cell? ((x.add (i * 2)).add 1) = some (.bool q) := by
      intro i hi
      have h1 := hat i hi
      have h2 : elems[i]? = some elems[i] := List.getElem?_eq_getElem (by omega)
      rw [h2] at h1
      obtain ⟨l2, hc, ht⟩ := Option.bind_eq_some_iff.1 h1
      unfold World.cells? at hc
      rw [if_pos (Nat.zero_le _)] at hc
      simp [List.range_succ, List.mapM_cons, Option.bind_eq_some_iff] at hc
      obtain ⟨c0, hc0, _, ⟨c1, hc1, rfl⟩, rfl⟩ := hc
      obtain ⟨ys, m, _, _, _, hyl, hf⟩ := DataW.trod_struct Tryz.underlying39 ht
      match ys, hyl, hf with
      | [y0, y1], _, hf =>
        have hy0 : DataW.trod enc Tryz.prog W 0 (fun _ => true) true m 9 (([c0, c1].drop 0).take (Tryz.prog.cellsOf 9)) = some y0 := hf 0 _ rfl
        have hy1 : DataW.trod enc Tryz.prog W 0 (fun _ => true) true m 4 (([c0, c1].drop 1).take (Tryz.prog.cellsOf 4)) = some y1 := hf 1 _ rfl
        rw [cs] at hy0
        rw [cb] at hy1
        obtain ⟨s, hs, _⟩ := DataW.trod_string Tryz.underlying9 hy0
        obtain ⟨q, hq, _⟩ := DataW.trod_bool Tryz.underlying4 hy1
        simp at hs hq
        subst hs; subst hq
        exact ⟨s, q, hc0, hc1⟩
    obtain ⟨bk, o, sp⟩ := x
    have ad : ∀ j, W.cell? ((⟨bk, o, none⟩ : Addr).add j) = W.cell? ⟨bk, o + j, none⟩ := fun j => by cases j <;> simp [Addr.add]
    have hsp : 0 < len → sp = none := by
      intro h0
      obtain ⟨s, q, h1, _⟩ := key 0 h0
      simp only [Nat.zero_mul, Addr.add, if_true] at h1
      cases sp with
      | none => rfl
      | some z =>
        unfold World.cell? at h1
        simp at h1
        split at h1 <;> cases h1
    let it : Nat → Item := fun i => ⟨match W.cell? ⟨bk, o + i * 2, none⟩ with | some (.string s) => s.data.toList | _ => [], match W.cell? ⟨bk, o + i * 2 + 1, none⟩ with | some (.bool q) => q | _ => false, true⟩
    refine ⟨(List.range len).map it, _, cap, by rw [List.length_map, List.length_range], fun i x hx => ?_⟩
    rw [List.getElem?_map] at hx
    by_cases hi : i < len
    · rw [List.getElem?_range hi] at hx
      obtain rfl := Option.some.inj hx
      obtain rfl := hsp (by omega)
      obtain ⟨s, q, h1, h2⟩ := key i hi
      have e1 : W.cell? ⟨bk, o + i * 2, none⟩ = some (.string s) := by
        rw [← ad]; simpa [Addr.add] using h1
      have e2 : W.cell? ⟨bk, o + i * 2 + 1, none⟩ = some (.bool q) := by
        have : ((⟨bk, o, none⟩ : Addr).add (i * 2)).add 1 = ⟨bk, o + i * 2 + 1, none⟩ := by
          by_cases h : i * 2 = 0 <;> simp [Addr.add, h]
        rw [← this]; exact h2
      exact ⟨bk, o, rfl, by rw [e1]; simp [it, e1], by rw [e2]; simp [it, e2]⟩
    · rw [List.getElem?_eq_none (by simpa using hi)] at hx; cases hx
end Go.Proofs.YtoapfldmkpobmaaGreatDoor

/- A list of numbers, and a number, that came in, opened. -/
namespace Go.Proofs.YtoapfldmkpobmaaGreatDoor
open Go.ChangeShapes Go.WideShapes Go.ChangeAt Go.ChangeMaps Go.RowKit
theorem addr_none {W : World} {a : Addr} {v : Value} (h : W.cell? (a.add 0) = some v) : ∃ b o, a = ⟨b, o, none⟩ := by
  obtain ⟨b, o, sp⟩ := a
  cases sp with
  | none => exact ⟨b, o, rfl⟩
  | some z =>
    simp only [Addr.add, if_true] at h
    unfold World.cell? at h
    simp at h
    split at h <;> cases h
theorem add_none (b o i : Nat) : (⟨b, o, none⟩ : Addr).add i = ⟨b, o + i, none⟩ := by cases i <;> simp [Addr.add]
set_option maxRecDepth 100000 in
theorem cells_ints {H : Type} {enc : TypeId × Value → H} {W : World} {m : Nat} {d : DataW H} {ps : List MemPlace} {c0 : Value}
    (h : DataW.trod enc Tryz.prog W 0 (fun _ => true) true m 22 [c0] = some (d, ps)) : ∃ xs, ISl W c0 xs := by
  rcases open_ints Tryz.underlying22 Tryz.underlying3 (by kernel_rfl) h with ⟨hcs, _⟩ | ⟨x, l, c, zs, hcs, _, hl, _, hz, _, hcell, hwf⟩
  · simp at hcs
    subst hcs
    exact ⟨[], none, 0, rfl, fun i z h => by simp at h⟩
  · simp at hcs
    subst hcs
    simp only [if_true] at hz
    have hlen : (zs.take l).length = l := by simp; omega
    refine ⟨zs.take l, some x, c, by rw [hlen], fun i y hy => ?_⟩
    have hi : i < l := by have := (List.getElem?_eq_some_iff.1 hy).1; omega
    have h0 := hcell 0 (by omega)
    obtain ⟨b, o, rfl⟩ := addr_none h0
    have hc := hcell i (by omega)
    rw [add_none] at hc
    rw [List.getElem?_take, if_pos hi] at hy
    refine ⟨b, o, rfl, ?_⟩
    rw [hc, List.getD_eq_getElem?_getD, hy, Option.getD_some]
theorem list2 {α : Type} (l : List α) (h : (⟨l⟩ : Array α).size = 2) : ∃ a b, l = [a, b] := by
  match l, h with
  | [a, b], _ => exact ⟨a, b, rfl⟩
end Go.Proofs.YtoapfldmkpobmaaGreatDoor

/- Layer 1: the door's heap where Go's own tables are listed too. -/
namespace Go.Proofs.YtoapfldmkpobmaaGreatDoor
open Go.ChangeShapes Go.WideShapes Go.ChangeAt Go.RowKit
abbrev laid8 : List (String × DataW Unit) := [("math/bits.deBruijn32tab", Rows.laid_math_bits_deBruijn32tab), ("math/bits.deBruijn64tab", Rows.laid_math_bits_deBruijn64tab), ("internal/strconv.uint64pow10", Rows.laid_internal_strconv_uint64pow10), ("unicode/utf8.acceptRanges", Rows.laid_unicode_utf8_acceptRanges), ("strconv.ErrRange", Rows.laid_strconv_ErrRange), ("strconv.ErrSyntax", Rows.laid_strconv_ErrSyntax), ("dragnet/words.escapes", Rows.laid_dragnet_words_escapes), ("unicode/utf8.first", Rows.laid_unicode_utf8_first)]
theorem sub68 : ∀ x ∈ laid6, x ∈ laid8 := by
  intro x h
  simp only [laid6, laid8, List.mem_cons, List.not_mem_nil, or_false] at h ⊢
  rcases h with h | h | h | h | h | h
  · exact .inl h
  · exact .inr (.inl h)
  · exact .inr (.inr (.inl h))
  · exact .inr (.inr (.inr (.inr (.inl h))))
  · exact .inr (.inr (.inr (.inr (.inr (.inl h)))))
  · exact .inr (.inr (.inr (.inr (.inr (.inr (.inl h))))))
theorem door_shaped8 (os : Os) (args : Array Value) : ((World.laidAll Tryz.prog os laid8).forCall (fun _ _ => 0) ⟨#[], args, []⟩).Shaped Tryz.prog := World.shaped_of_ZipB (by kernel_rfl) (by kernel_rfl)
theorem door_met8 (os : Os) (args : Array Value) : laidMetH Tryz.prog laid8 ((World.laidAll Tryz.prog os laid8).forCall (fun _ _ => 0) ⟨#[], args, []⟩).memory := by
  rw [MakeChecks.laidMetH_plain _ _ _ (by kernel_rfl)]
  exact laidMet_laidAll _ (by kernel_rfl) (by kernel_rfl)
end Go.Proofs.YtoapfldmkpobmaaGreatDoor

/- Layer 1: the law on lists, walked. -/
namespace Go.Proofs.YtoapfldmkpobmaaGreatDoor
open Go.RowKit
theorem plX_len (s : ByteArray) : (plX s).length ≤ 1000000 := by
  unfold plX
  split
  · next h => have := (listE_parts (list_plS h).1).1; omega
  · simp
theorem parse_x (s : ByteArray) (w : World) (hw : LW w) (hs : s.size ≤ 1000000) : Calls Tryz.prog 7 #[.string s] w (RpPost w s) := by
  by_cases hE : parseLE s = 0
  · refine (parse_any s w hw (by omega)).mono fun e w' h => ?_
    obtain ⟨hb, v, he, hi⟩ := h
    refine ⟨hb, v, he, ?_⟩
    unfold plX
    rw [if_pos hE]
    exact hi hE
  · refine (parse_bad s w hw (by omega) hE).mono fun e w' h => ?_
    refine ⟨h.2, _, h.1, ?_⟩
    unfold plX
    rw [if_neg hE]
    exact ⟨none, 0, rfl, fun i z hz => by simp at hz⟩
theorem rparse_x (s : ByteArray) (w : World) (hs : s.size ≤ 1000000) : Calls Tryz.prog 8 #[.string s] w (RpPost w s) := by
  by_cases h45 : s.data.toList = [45]
  · exact rparse_dash s w h45
  · exact rparse_any s w hs h45
set_option maxHeartbeats 1600000 in
set_option maxRecDepth 100000 in
theorem wlists_any (v : Value) (xs : List Int) (s : ByteArray) (w : World) (hw : LW w) (hv : ISl w v xs) : Calls Tryz.prog 3 #[v, .string s] w fun e w' => e = .returned (.bool true) ∧ Below w.heap.size w w' := by
  have hv0 := hv
  obtain ⟨p, c, rfl, -⟩ := hv
  obtain ⟨n, hn⟩ : ∃ n, n = xs.length := ⟨_, rfl⟩
  rw [← hn] at hv0 ⊢
  have SH := Lib.hid (fun W (h : Below w.heap.size w W) => shown_any W (hw.below h))
  have hb := Below.refl w.heap.size w
  by_cases h5 : 510 < n
  · have a1 : decide ((510 : Int) < (n : Int)) = true := decide_eq_true (by omega)
    clear h5 hw hv0 hn
    go_enter Tryz.func3, Tryz.ntmps3
    go_wp2_with (go_at_call 4; (with_reducible refine (SH.out _ hb).mono ?_); rintro e w6 ⟨rfl, hb2⟩; replace hb := hb.trans (hb2.mono hb.size); clear hb2)
    go_ret
    exact ⟨rfl, hb⟩
  have a1 : decide ((510 : Int) < (n : Int)) = false := decide_eq_false (by omega)
  by_cases h2 : 2000 < s.size
  · have a2 : decide ((2000 : Int) < (s.size : Int)) = true := decide_eq_true (by omega)
    clear h5 h2 hw hv0 hn
    go_enter Tryz.func3, Tryz.ntmps3
    go_wp2_with (go_at_call 4; (with_reducible refine (SH.out _ hb).mono ?_); rintro e w6 ⟨rfl, hb2⟩; replace hb := hb.trans (hb2.mono hb.size); clear hb2)
    go_ret
    exact ⟨rfl, hb⟩
  have a2 : decide ((2000 : Int) < (s.size : Int)) = false := decide_eq_false (by omega)
  have LA := Lib.hid (fun W (h : Below w.heap.size w W) => list_any _ xs W (hw.below h) (hv0.below h) (by omega))
  have LB := Lib.hid (fun W (h : Below w.heap.size w W) => rlist_any _ xs W (hv0.below h) (by omega))
  have PA := Lib.hid (fun W (h : Below w.heap.size w W) => parse_x s W (hw.below h) (by omega))
  have PB := Lib.hid (fun W (_ : Below w.heap.size w W) => rparse_x s W (by omega))
  unfold ListPost at LA LB
  unfold RpPost at PA PB
  have hpl := plX_len s
  generalize plX s = X at *
  have LI := Lib.hid (fun a b W (ha : ISl W a X) (hb : ISl W b X) => lists_any a b X W ha hb hpl)
  generalize (⟨(listS xs).toArray⟩ : ByteArray) = R at *
  generalize listE xs = E at *
  generalize parseLE s = E2 at *
  clear h5 h2 hw hv0 hn hpl
  go_enter Tryz.func3, Tryz.ntmps3
  go_wp2_with (first
    | (go_at_call 5; (with_reducible refine (LA.out _ hb).mono ?_); rintro e w2 ⟨rfl, hb2⟩; replace hb := hb.trans (hb2.mono hb.size); clear hb2)
    | (go_at_call 6; (with_reducible refine (LB.out _ hb).mono ?_); rintro e w2 ⟨rfl, hb2⟩; replace hb := hb.trans (hb2.mono hb.size); clear hb2)
    | (go_at_call 7; (with_reducible refine (PA.out _ hb).mono ?_); rintro e w3 ⟨hb2, m1, rfl, hi1⟩; have H1 := Lib.hid hi1; clear hi1; replace hb := hb.trans (hb2.mono hb.size); clear hb2)
    | (go_at_call 8; (with_reducible refine (PB.out _ hb).mono ?_); rintro e w4 ⟨hb2, m2, rfl, hi2⟩; have H2 := Lib.hid (And.intro (H1.out.below hb2) hi2); clear hi2; replace hb := hb.trans (hb2.mono hb.size); clear hb2)
    | (go_at_call 9; (with_reducible refine (LI.out _ _ _ H2.out.1 H2.out.2).mono ?_); rintro e w5 ⟨rfl, d, rfl⟩; replace hb := below_drewN hb d)
    | (go_at_call 4; (with_reducible refine (SH.out _ hb).mono ?_); rintro e w6 ⟨rfl, hb2⟩; replace hb := hb.trans (hb2.mono hb.size); clear hb2))
  go_ret
  exact ⟨rfl, hb⟩
end Go.Proofs.YtoapfldmkpobmaaGreatDoor

namespace Go.Proofs.YtoapfldmkpobmaaGreatDoor
open Go.ChangeShapes Go.WideShapes Go.ChangeAt Go.ChangeMaps Go.RowKit
set_option maxRecDepth 100000 in
theorem lists_lifted (os : Os) (started : os.Started) (H : Type) (enc : TypeId × Value → H) :
    ReturnsInHanded {} Tryz.checked os 3 .any (fun w args => (Rows.wordsListsSpec.pre enc Tryz.prog Tryz.f3 [] false w args ∧ laidMetH Tryz.prog laid8 w) ∧ sizedMet enc Tryz.prog Tryz.f3 (OpenSpec.ofChange Rows.wordsListsSpec) false w args)
      (Rows.wordsListsSpec.post enc Tryz.prog Tryz.f3 false true false false) := by
  refine wrap_laid (C := Tryz.checked) (X := fun w _ => laidMetH Tryz.prog laid8 w) (fun _ _ _ hh h => h.of_heap hh) own started (by kernel_rfl) Tryz.func3
    (ChangeSpec.witness_shaped (enc := enc) (C := Tryz.checked) (os := os) (X := fun w _ => laidMetH Tryz.prog laid8 w) false (World.laidAll Tryz.prog os laid8) #[.slice none 0 0, .string ⟨#[]⟩] 8 (World.laidAll_os _ _ _) (door_shaped8 os _) (by kernel_rfl) (by kernel_rfl) (by kernel_rfl) (door_met8 os _)) ?_
  intro W base args ds gs before hval0 hW _ hL hS
  have hval : ∀ (j : Nat) t v, Tryz.f3.params[j]? = some t → args[j]? = some v → Value.okWide Tryz.prog W .any base t v := hval0
  have hW' := hW
  obtain ⟨p, q, hA0, hV, rfl, hfz, hnd⟩ := hW
  have hA : DataW.TrodAll enc Tryz.prog W 0 (fun _ => true) true Tryz.f3.params.toList args.toList ds p := hA0
  rw [Tryz.params3] at hA hval
  obtain ⟨v0, v1, d0, d1, p0, p1, rfl, rfl, rfl, h0, h1⟩ := trodAll_two hA
  obtain ⟨rfl, rfl⟩ := trodVars_none hV
  obtain ⟨a1, rfl, rfl, rfl, w1⟩ := open_string Tryz.underlying9 (hval 1 9 v1 rfl rfl) h1
  have k0 := h0
  have lt0 : ∀ x ∈ p0, x.block < W.heap.size := by obtain ⟨m, hm⟩ := k0; exact DataW.trod_lt m _ _ _ hm
  obtain ⟨xs, hxs⟩ : ∃ xs, ISl W v0 xs := by
    obtain ⟨fuel, hf⟩ := h0
    obtain ⟨a, len, cap, rfl⟩ := okWide_slice Tryz.underlying22 (hval 0 22 v0 rfl rfl)
    exact cells_ints hf
  clear hA0 hval0
  rw [MakeChecks.laidMetH_plain _ _ _ (by kernel_rfl)] at hL
  refine (wlists_any v0 xs a1 W (lw_of_laid sub68 hL hS) hxs).mono fun e W' ⟨he, bel⟩ => ?_
  subst he
  exact ⟨_, rfl, _, _, _, [], _, [], hW', trodAll_mk1 (shut_bool Tryz.underlying4 _), trodAll_cons_mk (Below.trod laidOut (by kernel_rfl) (of_decide_eq_true (by kernel_rfl)) k0 bel lt0) (trodAll_mk1 (shut_string Tryz.underlying9 w1)), rfl, bel.frame _, fun h => by cases h⟩
theorem lists_holds : Rows.WordsListsSaid :=
  OpenClaim.holds_of_wide 3 Tryz.f3 rfl rfl rfl rfl rfl rfl rfl ⟨rfl, rfl, rfl, rfl, rfl⟩ rfl rfl rfl rfl rfl (by kernel_rfl) Tryz.func3 (by kernel_rfl)
    (of_decide_eq_true (by kernel_rfl)) (by unfold Func.isWrapper; first | (rw [if_pos (by decide +kernel)]; kernel_rfl) | (rw [if_neg (by decide +kernel)]; exact ⟨rfl, rfl⟩))
    (fun os started H enc _ => lists_lifted os started H enc)
end Go.Proofs.YtoapfldmkpobmaaGreatDoor
