/- Layer 1: unescapeHex and unescape. -/
import Derived.Test.YtoapfldmkpobmaaGreatDoorH
namespace Go.Proofs.YtoapfldmkpobmaaGreatDoor
open Go.RowKit
def hexIdx (c : UInt8) : Int := Lib.indexByte hexC c
theorem hexIdx_cases (c : UInt8) : hexIdx c = -1 ∧ (∀ k, k < 16 → hexAt k ≠ c) ∨ ∃ k : Nat, k < 16 ∧ hexIdx c = (k : Int) ∧ hexAt k = c := by
  have : ∀ c : Fin 256, (hexIdx (UInt8.ofNat c.val) = -1 ∧ ∀ k : Fin 16, hexAt k.val ≠ UInt8.ofNat c.val) ∨ ∃ k : Fin 16, hexIdx (UInt8.ofNat c.val) = (k.val : Int) ∧ hexAt k.val = UInt8.ofNat c.val := by decide +kernel
  have h := this ⟨c.toNat, c.toNat_lt⟩
  simp only [UInt8.ofNat_toNat] at h
  rcases h with ⟨h1, h2⟩ | ⟨k, h1, h2⟩
  · exact .inl ⟨h1, fun k hk => h2 ⟨k, hk⟩⟩
  · exact .inr ⟨k.val, k.isLt, h1, h2⟩
theorem index_any (c : UInt8) (w : World) : Calls Tryz.prog 75 #[.string hexS, .int .u8 c.toNat] w fun e w' => e = .returned (.int .i64 (hexIdx c)) ∧ w = w' :=
  (Tryz.strings_IndexByte hexS c.toNat w).mono (by rintro e w' ⟨rfl, rfl⟩; exact ⟨by unfold hexIdx; simp; rfl, rfl⟩)
def UnPost (w : World) (l : List UInt8) (e : Ending) (w' : World) : Prop := e = .returned (.tuple #[.int .u8 (unB l).toNat, .int .i64 (unN l)]) ∧ Below w.heap.size w w'
theorem unPost_none {w w' : World} {l : List UInt8} (h : unescL l = none) (hb : Below w.heap.size w w') : UnPost w l (.returned (.tuple #[.int .u8 0, .int .i64 0])) w' := by
  refine ⟨?_, hb⟩
  unfold unB unN; rw [h]; rfl
theorem unPost_some {w w' : World} {l : List UInt8} {c : UInt8} {n : Nat} (h : unescL l = some c) (hn : (escL c).length = n) (hb : Below w.heap.size w w') : UnPost w l (.returned (.tuple #[.int .u8 c.toNat, .int .i64 n])) w' := by
  refine ⟨?_, hb⟩
  unfold unB unN; rw [h]; simp [hn]
set_option maxHeartbeats 800000 in
theorem unhex_short (s : ByteArray) (w : World) (h : s.size < 4) (hx : unescL s.data.toList = none) : Calls Tryz.prog 62 #[.string s] w (UnPost w s.data.toList) := by
  have HX := Lib.hid hx
  clear hx
  go_enter Tryz.func62, Tryz.ntmps62
  go_wp2
  go_ret2
  exact unPost_none HX.out (Below.refl _ _)
theorem unhex_nox (s : ByteArray) (w : World) (hs : s.size ≤ 100000000000) (h : 4 ≤ s.size) (h1 : ¬ (s[1].toNat : Int) = 120) (hx : unescL s.data.toList = none) : Calls Tryz.prog 62 #[.string s] w (UnPost w s.data.toList) := by
  have HX := Lib.hid hx
  have f1 : decide ((s.size : Int) < 4) = false := decide_eq_false (by omega)
  have f2 : ((s[1].toNat : Int) != 120) = true := by simp [h1]
  clear hx h1
  go_enter Tryz.func62, Tryz.ntmps62
  go_wp2
  go_ret2
  exact unPost_none HX.out (Below.refl _ _)
theorem unhex_nodig (s : ByteArray) (w : World) (hs : s.size ≤ 100000000000) (h : 4 ≤ s.size) (h1 : (s[1].toNat : Int) = 120) (hd : hexIdx s[2] < 0 ∨ hexIdx s[3] < 0) (hx : unescL s.data.toList = none) :
    Calls Tryz.prog 62 #[.string s] w (UnPost w s.data.toList) := by
  have HX := Lib.hid hx
  have f1 : decide ((s.size : Int) < 4) = false := decide_eq_false (by omega)
  have f2 : ((s[1].toNat : Int) != 120) = false := by simp [h1]
  clear hx h1
  by_cases h2 : hexIdx s[2] < 0
  · clear hd
    go_enter Tryz.func62, Tryz.ntmps62
    go_wp2_with (go_at_call 75; refine (index_any _ _).mono ?_; rintro e w' ⟨rfl, rfl⟩)
    go_ret2
    exact unPost_none HX.out (Below.refl _ _)
  · have h3 : hexIdx s[3] < 0 := by
      rcases hd with h | h
      · exact absurd h h2
      · exact h
    clear hd
    go_enter Tryz.func62, Tryz.ntmps62
    go_wp2_with (go_at_call 75; refine (index_any _ _).mono ?_; rintro e w' ⟨rfl, rfl⟩)
    go_ret2
    exact unPost_none HX.out (Below.refl _ _)
theorem ext04 (s : ByteArray) : (s.extract 0 4).toList = s.data.toList.take 4 := by rw [toList_data, Lib.extract_data]; simp
theorem data_four (s : ByteArray) (h : 4 ≤ s.size) : ∃ r, s.data.toList = s[0] :: s[1] :: s[2] :: s[3] :: r := by
  refine ⟨s.data.toList.drop 4, ?_⟩
  rw [data_cons s (by omega), data_drop s 1 (by omega), data_drop s 2 (by omega), data_drop s 3 (by omega)]
  simp
theorem hex_yes (s : ByteArray) (h : 4 ≤ s.size) (b : UInt8) (he : (!escL b == (s.extract 0 4).toList) = false) : unescL s.data.toList = some b ∧ (escL b).length = 4 := by
  rw [ext04] at he
  have e : escL b = s.data.toList.take 4 := by simpa using he
  constructor
  · apply unescL_some
    rw [pre_iff, e]
    exact ⟨s.data.toList.drop 4, List.take_append_drop _ _⟩
  · rw [e, List.length_take, length_data]; omega
theorem hex_no (s : ByteArray) (h : 4 ≤ s.size) (h0 : s[0] = 92) (h1 : (s[1].toNat : Int) = 120) (i j : Nat) (hi : i < 16) (hj : j < 16) (hd2 : hexAt i = s[2]) (hd3 : hexAt j = s[3]) (b : UInt8) (hb : b = UInt8.ofNat (16 * i + j))
    (he : (!escL b == (s.extract 0 4).toList) = true) : unescL s.data.toList = none := by
  rw [ext04] at he
  have e : ¬ escL b = s.data.toList.take 4 := by simpa using he
  obtain ⟨r, hr⟩ := data_four s h
  have e1 : s[1] = 120 := u8_eq_of_int _ 120 (by decide) h1
  rw [hr, h0, e1] at e ⊢
  apply un_hex
  intro d hd t ht
  simp only [List.cons_append, List.nil_append, List.cons.injEq, true_and] at ht
  have hbd := d.toNat_lt
  have q1 := hexAt_inj _ _ (by omega) hi (ht.1.trans hd2.symm)
  have q2 := hexAt_inj _ _ (by omega) hj (ht.2.1.trans hd3.symm)
  have hdb : d = b := by
    apply UInt8.toNat_inj.1
    rw [hb]; simp; omega
  apply e
  rw [← hdb, hd, ht.1, ht.2.1]; simp
theorem bl0 {w w1 : World} (hb : Below w.drew.heap.size w.drew w1) : Below w.heap.size w w1 := ⟨hb.os, hb.tape, hb.output, hb.size, hb.block⟩
theorem LW.drew {w : World} (h : LW w) : LW w.drew := h.below ((Below.refl _ w).drew)
theorem or16 (i j : Nat) (hi : i < 16) (hj : j < 16) : bits BinOp.or IntKind.i64 ((i : Int) * 16) (j : Int) % 256 = (((UInt8.ofNat (16 * i + j)).toNat : Nat) : Int) := by
  have : ∀ i j : Fin 16, bits BinOp.or IntKind.i64 ((i.val : Int) * 16) (j.val : Int) % 256 = (((UInt8.ofNat (16 * i.val + j.val)).toNat : Nat) : Int) := by decide +kernel
  exact this ⟨i, hi⟩ ⟨j, hj⟩
set_option maxHeartbeats 800000 in
set_option maxRecDepth 100000 in
theorem unhex_dig (s : ByteArray) (w : World) (hw : LW w) (hs : s.size ≤ 100000000000) (h : 4 ≤ s.size) (h0 : s[0] = 92) (h1 : (s[1].toNat : Int) = 120) (i j : Nat) (hi : i < 16) (hj : j < 16) (hd2 : hexIdx s[2] = i) (hd3 : hexIdx s[3] = j) (he2 : hexAt i = s[2]) (he3 : hexAt j = s[3]) :
    Calls Tryz.prog 62 #[.string s] w (UnPost w s.data.toList) := by
  have f1 : decide ((s.size : Int) < 4) = false := decide_eq_false (by omega)
  have f2 : ((s[1].toNat : Int) != 120) = false := by simp [h1]
  have i1 : decide ((i : Int) < 0) = false := decide_eq_false (by omega)
  have j1 : decide ((j : Int) < 0) = false := decide_eq_false (by omega)
  obtain ⟨b, hb⟩ : ∃ b : UInt8, b = UInt8.ofNat (16 * i + j) := ⟨_, rfl⟩
  have hor : bits BinOp.or IntKind.i64 ((i : Int) * 16) (j : Int) % 256 = ((b.toNat : Nat) : Int) := by rw [hb]; exact or16 i j hi hj
  have HB := Lib.hid hb
  have hc := Lib.hid (fun W (hW : LW W) => app_any W.heap.size 0 (.slice none 0 0) [] b W hW (World.ownsRow_nil _ _ _ _) (Nat.le_refl _) (by omega))
  have hw2 := hw.drew
  have HY := Lib.hid (hex_yes s h b)
  have HN := Lib.hid (hex_no s h h0 h1 i j hi hj he2 he3 b hb)
  clear h1 hb h0 he2 he3
  go_enter Tryz.func62, Tryz.ntmps62
  go_wp2_with (go_at_call 75; refine (index_any _ _).mono ?_; rintro e w' ⟨rfl, rfl⟩)
  go_region_with (go_at_call 76; refine (hc.out _ hw2).mono ?_; rintro e w2 ⟨v2, rfl, hown3, hb3⟩; have hcv := conv_own hown3)
  all_goals go_wp2_with fail
  all_goals go_ret2
  all_goals (first | exact unPost_none (HN.out (by assumption)) (bl0 hb3) | exact unPost_some (HY.out (by assumption)).1 (HY.out (by assumption)).2 (bl0 hb3))

theorem unhex_any (s : ByteArray) (w : World) (hw : LW w) (hs : s.size ≤ 100000000000) (h : 2 ≤ s.size) (h0 : s[0] = 92) (hb : ∀ k, k < 5 → ec k ≠ s[1]) : Calls Tryz.prog 62 #[.string s] w (UnPost w s.data.toList) := by
  by_cases hx : s[1] = 120
  · by_cases h4 : s.size < 4
    · refine unhex_short s w h4 ?_
      rw [data_cons s (by omega), data_drop s 1 (by omega), h0, hx]
      apply un_hex
      intro b _ t ht
      have hl := congrArg List.length ht
      have hl2 : s.data.toList.length = s.size := length_data s
      simp at hl
      omega
    · have h1 : (s[1].toNat : Int) = 120 := by rw [hx]; rfl
      rcases hexIdx_cases s[2] with ⟨e2, n2⟩ | ⟨i, hi, e2, f2⟩
      · refine unhex_nodig s w hs (by omega) h1 (.inl (by rw [e2]; decide)) ?_
        obtain ⟨r, hr⟩ := data_four s (by omega)
        rw [hr, h0, hx]
        apply un_hex
        intro d hd t ht
        have hbd := d.toNat_lt
        simp only [List.cons_append, List.nil_append, List.cons.injEq, true_and] at ht
        exact n2 _ (by omega) ht.1
      · rcases hexIdx_cases s[3] with ⟨e3, n3⟩ | ⟨j, hj, e3, f3⟩
        · refine unhex_nodig s w hs (by omega) h1 (.inr (by rw [e3]; decide)) ?_
          obtain ⟨r, hr⟩ := data_four s (by omega)
          rw [hr, h0, hx]
          apply un_hex
          intro d hd t ht
          have hbd := d.toNat_lt
          simp only [List.cons_append, List.nil_append, List.cons.injEq, true_and] at ht
          exact n3 _ (by omega) ht.2.1
        · exact unhex_dig s w hw hs (by omega) h0 h1 i j hi hj e2 e3 f2 f3
  · have hx' : ¬ (s[1].toNat : Int) = 120 := fun e => hx (u8_eq_of_int _ 120 (by decide) e)
    have hn : unescL s.data.toList = none := by
      rw [data_cons s (by omega), data_drop s 1 (by omega), h0]
      exact un_bad _ _ hb hx
    by_cases h4 : s.size < 4
    · exact unhex_short s w h4 hn
    · exact unhex_nox s w hs (by omega) hx' hn
end Go.Proofs.YtoapfldmkpobmaaGreatDoor
