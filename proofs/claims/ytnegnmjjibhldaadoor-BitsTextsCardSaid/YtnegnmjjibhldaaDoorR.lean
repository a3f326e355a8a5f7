/- Layer 2: readWord, Parse of the program. -/
import Derived.Test.YtnegnmjjibhldaaDoorQ
import Derived.Test.YtnegnmjjibhldaaDoorTb
import Derived.Test.YtnegnmjjibhldaaDoorShelf
namespace Go.Proofs.YtnegnmjjibhldaaDoor
open Go.RowKit
def hexS : ByteArray := ⟨#[48, 49, 50, 51, 52, 53, 54, 55, 56, 57, 97, 98, 99, 100, 101, 102]⟩
theorem index_any (c : UInt8) (w : World) : Calls Tryd.prog 36 #[.string ⟨#[48, 49, 50, 51, 52, 53, 54, 55, 56, 57, 97, 98, 99, 100, 101, 102]⟩, .int .u8 (c.toNat : Int)] w fun e w' => e = .returned (.int .i64 (dig c)) ∧ w = w' :=
  (Tryd.strings_IndexByte _ _ w).mono (by rintro e w' ⟨rfl, rfl⟩; exact ⟨by rw [show ((c.toNat : Nat) : Int).toNat.toUInt8 = c by simp]; rfl, rfl⟩)
theorem hex_step {a d : Nat} (ha : a < 16 ^ 15) (hd : d < 16) : bits .or .u64 (IntKind.u64.wrap ((a : Int) * 16)) (d : Int) = ((16 * a + d : Nat) : Int) := by
  have e : IntKind.u64.wrap ((a : Int) * 16) = ((2 ^ 4 * a : Nat) : Int) := by rw [IntKind.wrap_u64]; omega
  rw [e, u64_or_nat _ _ (by omega) (by omega), ← Nat.two_pow_add_eq_or_of_lt (by omega)]
theorem hv_take {s : ByteArray} {k : Nat} (h : k < s.size) : hv (s.data.toList.take (k + 1)) = 16 * hv (s.data.toList.take k) + (dig s[k]).toNat := by
  have e : s.data.toList.take (k + 1) = s.data.toList.take k ++ [s[k]] := by
    rw [List.take_succ_eq_append_getElem (by simpa using h)]; rfl
  rw [e, hv_snoc]
theorem hv_bound (l : List UInt8) (k : Nat) : hv (l.take k) < 16 ^ k :=
  Nat.lt_of_lt_of_le (hv_lt _) (Nat.pow_le_pow_right (by omega) (List.length_take_le _ _))
def wordV (l : List UInt8) : Nat := if okP l then hv l else 0
def WordPost (l : List UInt8) (w : World) (e : Ending) (w' : World) : Prop := e = .returned (.tuple #[.int .u64 ((wordV l : Nat) : Int), .bool (okP l)]) ∧ w = w'
set_option maxRecDepth 100000 in
theorem readWord_any (s : ByteArray) (w : World) (hs : s.size ≤ maxLen) :
    Calls Tryd.prog 25 #[.string s] w (WordPost s.data.toList w) := by
  unfold maxLen at hs
  have hlen : s.data.toList.length = s.size := by simp
  by_cases h16 : s.size = 16
  · have hne : ((s.size : Int) != 16) = false := by simp [h16]
    have HS := Lib.hid h16
    have HL := Lib.hid hlen
    clear h16 hlen
    go_enter Tryd.func25, Tryd.ntmps25
    go_wp2
    go_loop [2, 4, 5, 11] (fun a _ _ i => ∃ k : Nat, k ≤ s.size ∧ i = .int .i64 k ∧ a = .int .u64 ((hv (s.data.toList.take k) : Nat) : Int) ∧ Hid ((s.data.toList.take k).all (fun c => decide (0 ≤ dig c)) = true)) (fun _ _ _ i => s.size - (intOf i).toNat)
    case atStart => exact ⟨0, Nat.zero_le _, rfl, rfl, Lib.hid rfl⟩
    case round =>
      obtain ⟨k, hk, rfl, rfl, hd⟩ := hrel
      by_cases hlt : k < s.size
      · have hbd := hv_bound s.data.toList k
        have hb15 : hv (s.data.toList.take k) < 16 ^ 15 := Nat.lt_of_lt_of_le hbd (Nat.pow_le_pow_right (by omega) (by have := HS.out; omega))
        have HT := Lib.hid (hv_take hlt)
        have hall : ∀ b, decide (0 ≤ dig s[k]) = b → (s.data.toList.take (k + 1)).all (fun c => decide (0 ≤ dig c)) = b := by
          intro b hb
          have e : s.data.toList.take (k + 1) = s.data.toList.take k ++ [s[k]] := by
            rw [List.take_succ_eq_append_getElem (by simpa using hlt)]; rfl
          rw [e, List.all_append, hd.out]; simp [hb]
        have IX := Lib.hid (fun w' => index_any s[k] w')
        by_cases hg : 0 ≤ dig s[k]
        · obtain ⟨d, hdd⟩ : ∃ d : Nat, dig s[k] = d := ⟨(dig s[k]).toNat, by omega⟩
          have hd16 : d < 16 := by have := (dig_range s[k]).2; omega
          have HA := Lib.hid (hall true (decide_eq_true hg))
          rw [hdd] at IX HT
          have e1 := hex_step hb15 hd16
          rw [Int.toNat_natCast] at HT
          generalize hv (s.data.toList.take k) = a at *
          clear hall hg hdd hbd hb15
          go_wp2_with (go_at_call 36; refine (IX.out _).mono ?_; rintro e w' ⟨rfl, rfl⟩)
          go_round
          case rel => exact ⟨k + 1, by omega, by go_num, by rw [HT.out]; simp, Lib.hid HA.out⟩
          case measure => simp [intOf]; omega
        · have hg1 : dig s[k] = -1 := by have := (dig_range s[k]).1; omega
          have HB := Lib.hid (show okP s.data.toList = false by
            unfold okP; rw [Bool.and_eq_false_iff]; right
            rw [List.all_eq_false]
            exact ⟨s[k], by simp [List.mem_iff_getElem]; exact ⟨k, by simpa using hlt, rfl⟩, by simp; omega⟩)
          rw [hg1] at IX
          clear hall hg hg1 hbd hb15
          go_wp2_with (go_at_call 36; refine (IX.out _).mono ?_; rintro e w' ⟨rfl, rfl⟩)
          go_ret2
          exact ⟨by unfold wordV; rw [HB.out]; rfl, rfl⟩
      · obtain rfl : k = s.size := by omega
        have HB := Lib.hid (show okP s.data.toList = true by
          unfold okP; rw [Bool.and_eq_true, decide_eq_true_iff]
          refine ⟨by rw [HL.out, HS.out], ?_⟩
          have := hd.out
          rwa [List.take_of_length_le (by rw [HL.out]; exact Nat.le_refl _)] at this)
        have HV := Lib.hid (show hv s.data.toList = hv (s.data.toList.take s.size) by rw [List.take_of_length_le (by rw [HL.out]; exact Nat.le_refl _)])
        go_wp2
        go_ret2
        exact ⟨by unfold wordV; rw [HB.out, if_pos rfl, HV.out]; rfl, rfl⟩
  · have hne : ((s.size : Int) != 16) = true := by rw [bne_iff_ne]; omega
    have HB := Lib.hid (show okP s.data.toList = false by unfold okP; rw [hlen, decide_eq_false h16]; rfl)
    clear h16 hlen
    go_enter Tryd.func25, Tryd.ntmps25
    go_wp2
    go_ret2
    exact ⟨by unfold wordV; rw [HB.out]; rfl, rfl⟩
/-- The library's variable that Split looks at. -/
def ML (w : World) : Prop := ∃ m, w.cell? ⟨0, 0, none⟩ = some (.int .i64 m) ∧ 0 < w.heap.size
theorem ML.below {w w' : World} (h : ML w) (hb : Below w.heap.size w w') : ML w' := by
  obtain ⟨m, h1, h2⟩ := h
  exact ⟨m, (hb.cell (p := ⟨0, 0, none⟩) h2).trans h1, Nat.lt_of_lt_of_le h2 hb.size⟩
theorem split_any (s : ByteArray) (w : World) (hw : ML w) (hs : s.size ≤ 1000) : Calls Tryd.prog 24 #[.string s, .string ⟨#[46]⟩] w fun e w' =>
    ∃ L : List ByteArray, L.map (·.data.toList) = parts s.data.toList ∧ e = .returned (.slice (some ⟨w.heap.size, 0, none⟩) L.length L.length) ∧ w' = w.alloc (.cells (L.map Value.string).toArray 9) := by
  obtain ⟨m, hm, _⟩ := hw
  refine (Tryd.strings_Split s ⟨#[46]⟩ m w (by omega) hm (by decide)).mono ?_
  rintro e w' ⟨rfl, rfl⟩
  refine ⟨Lib.splitB ⟨#[46]⟩ 0 (Lib.countB s ⟨#[46]⟩) s, ?_, ?_, rfl⟩
  · rw [Lib.splitB_data]
    exact splitK_parts _ _ rfl
  · rw [Lib.splitB_all _ (by decide) _ _ _ rfl]
theorem parts_le (l : List UInt8) : (parts l).length ≤ l.length + 1 := by
  induction l with
  | nil => simp [parts]
  | cons c r ih =>
    unfold parts
    split
    · simp; omega
    · split
      · simp
      · next h => rw [h] at ih; simpa using Nat.le_succ_of_le ih
theorem part_row (p : Nat → Bool) (ps : List (List UInt8)) (h : ∀ j, j < ps.length → p j = true) : part p ps.length (fun j => hv (ps.getD (ps.length - 1 - j) [])) = parseRow ps := by
  unfold part parseRow
  apply List.map_congr_left
  intro j hj
  rw [h j (List.mem_range.1 hj)]; rfl
set_option maxHeartbeats 400000 in
set_option maxRecDepth 100000 in
theorem parse_any (s : ByteArray) (w : World) (hw : ML w) (hs : s.size ≤ maxLen) : Calls Tryd.prog 9 #[.string s] w (RowPost w (parseR s.data.toList) (parseE s.data.toList)) := by
  unfold maxLen at hs
  have hlen : s.data.toList.length = s.size := by simp
  by_cases h135 : 135 < s.size
  · have hb : decide ((135 : Int) < (s.size : Int)) = true := decide_eq_true (by omega)
    have E := Lib.hid (show parseE s.data.toList = 3 by unfold parseE; rw [hlen, if_pos h135])
    have R := Lib.hid (show parseR s.data.toList = [] by unfold parseR; rw [E.out]; rfl)
    clear h135 hlen hs
    go_enter Tryd.func9, Tryd.ntmps9
    go_wp2
    go_ret2
    exact ⟨.slice none 0 0, by rw [E.out]; rfl, by rw [R.out]; exact URow.none _, Below.refl _ _⟩
  · have hb : decide ((135 : Int) < (s.size : Int)) = false := decide_eq_false (by omega)
    have SP := Lib.hid (split_any s w hw (by omega))
    have EK := Lib.hid (show (parts s.data.toList).all okP = true → parseE s.data.toList = 0 ∧ parseR s.data.toList = parseRow (parts s.data.toList) from fun h => by
      have e : parseE s.data.toList = 0 := by unfold parseE; rw [hlen, if_neg h135, if_pos h]
      exact ⟨e, by unfold parseR; rw [if_pos e]⟩)
    have EN := Lib.hid (show (parts s.data.toList).all okP = false → parseE s.data.toList = 6 ∧ parseR s.data.toList = [] from fun h => by
      have e : parseE s.data.toList = 6 := by unfold parseE; rw [hlen, if_neg h135, h]; rfl
      exact ⟨e, by unfold parseR; rw [if_neg (by rw [e]; decide)]⟩)
    have hpl := parts_le s.data.toList
    rw [hlen] at hpl
    have hpn : 0 < (parts s.data.toList).length := List.length_pos_iff.2 (parts_ne _)
    have hn1 : (parts s.data.toList).length ≤ 1000 := by omega
    have hsz : ∀ p ∈ parts s.data.toList, p.length ≤ maxLen := by
      intro p hp
      have : ∀ (l : List UInt8), ∀ p ∈ parts l, p.length ≤ l.length := by
        intro l
        induction l with
        | nil => intro p hp; simp [parts] at hp; simp [hp]
        | cons c r ih =>
          intro p hp
          unfold parts at hp
          split at hp
          · rcases List.mem_cons.1 hp with rfl | h
            · simp
            · exact Nat.le_succ_of_le (ih p h)
          · split at hp
            · simp at hp; simp [hp]
            · next q ps h =>
              rcases List.mem_cons.1 hp with rfl | h'
              · have := ih q (by rw [h]; exact List.mem_cons_self)
                simpa using this
              · exact Nat.le_succ_of_le (ih p (by rw [h]; exact List.mem_cons_of_mem _ h'))
      have := this _ p hp
      rw [hlen] at this
      simp only [maxLen]; omega
    generalize parts s.data.toList = ps at *
    have HPS := Lib.hid hsz
    obtain ⟨n, hn⟩ : ∃ n, n = ps.length := ⟨_, rfl⟩
    have SP2 := Lib.hid (show Calls _ _ _ _ (fun e w' => ∃ L : List ByteArray, Hid (L.map (·.data.toList) = ps) ∧ Hid (L.length = n) ∧ e = .returned (.slice (some ⟨w.heap.size, 0, none⟩) n n) ∧ w' = w.alloc (.cells (L.map Value.string).toArray 9)) from SP.out.mono (by
      rintro e w' ⟨L, hL, rfl, rfl⟩
      have hl : L.length = n := by rw [hn, ← hL, List.length_map]
      exact ⟨L, Lib.hid hL, Lib.hid hl, by rw [hl], rfl⟩))
    have MK := mk_any n (by omega)
    rw [← hn] at hpn hn1
    have HN := Lib.hid hn
    clear h135 hlen hs hpl hsz hw SP hn
    go_enter Tryd.func9, Tryd.ntmps9
    go_wp2_with (go_at_call 24; refine SP2.out.mono ?_; rintro e w1 ⟨L, hL, hLn, rfl, rfl⟩)
    have LAT : ∀ k, k < n → ∀ x, L[k]? = some x → Hid (ps[k]? = some x.data.toList) := fun k _ x hx => Lib.hid (by rw [← hL.out, List.getElem?_map, hx]; rfl)
    have HLAT := Lib.hid LAT
    clear LAT
    obtain ⟨wP, hwP⟩ : ∃ wP, wP = w.alloc (.cells (L.map Value.string).toArray 9) := ⟨_, rfl⟩
    have hPB : Below w.heap.size w wP := by rw [hwP]; exact (Below.refl _ w).alloc (Nat.le_refl _) _
    have hPc : wP.heap[w.heap.size]? = some (.cells (L.map Value.string).toArray 9) := by rw [hwP]; exact World.alloc_heap_new w _
    have hPs : wP.heap.size = w.heap.size + 1 := by rw [hwP]; simp
    go_loopw [6, 7, 8, 19] (fun _ _ _ i wr => ∃ k : Nat, k ≤ n ∧ i = .int .i64 k ∧ Hid ((ps.take k).all okP = true) ∧ wr.heap[w.heap.size]? = some (.cells (L.map Value.string).toArray 9) ∧ Own64 wr (w.heap.size + 1) n (part (fun j => decide (n - k ≤ j)) n (fun j => hv (ps.getD (n - 1 - j) []))) ∧ Below w.heap.size w wr) (fun _ _ _ i _ => n - (intOf i).toNat)
    case atStart =>
      rw [← hwP]
      refine ⟨0, Nat.zero_le _, rfl, Lib.hid rfl, (Below.heap_alloc _ _ _ (by omega)).trans hPc, ?_, hPB.alloc hPB.size _⟩
      rw [part_none _ _ _ (fun j hj => by simp; exact hj), ← hPs]
      exact made_own wP n (by omega)
    case round =>
      clear hPB hPc hPs hwP
      obtain ⟨k, hk, rfl, hd, hpc, hown, hb2⟩ := hrel
      by_cases hlt : k < n
      · obtain ⟨j, hj⟩ : ∃ j, j + 1 + k = n := ⟨n - 1 - k, by omega⟩
        obtain ⟨x, hx⟩ : ∃ x, L[k]? = some x := ⟨_, List.getElem?_eq_getElem (by rw [hLn.out]; omega)⟩
        have hpx := HLAT.out k hlt x hx
        have hcell : wr.cell? ⟨w.heap.size, k, none⟩ = some (.string x) := by
          rw [cell_of_row _ _ _ _ _ (0, 0) hpc]; simp [hx]
        have hxl : x.size ≤ maxLen := by
          have := HPS.out x.data.toList (List.mem_of_getElem? hpx.out)
          simpa using this
        have RW := Lib.hid (fun w' => readWord_any x w' hxl)
        have hc1 := hown.cell (j := j) (by rw [part_len]; omega)
        have hf1 := hown.frozen j
        have HO := Lib.hid hown
        have HPC := Lib.hid hpc
        have HX := Lib.hid hx
        have hji : (n : Int) - 1 - (k : Int) = (j : Int) := by omega
        have hjn : j < n := by omega
        have HJ := Lib.hid hj
        have HTK := Lib.hid (show ∀ b, okP x.data.toList = b → (ps.take (k + 1)).all okP = b from fun b hb => by
          rw [List.take_add_one, hpx.out, List.all_append, hd.out]; simp [hb])
        unfold WordPost at RW
        rcases hok : okP x.data.toList with _ | _
        · have B := Lib.hid (EN.out (by rw [List.all_eq_false]; exact ⟨_, List.mem_of_getElem? hpx.out, by rw [hok]; decide⟩))
          rw [hok] at RW
          clear hx hown hok hxl hpc hj
          go_wp2_with (go_at_call 25; refine (RW.out _).mono ?_; rintro e w' ⟨rfl, rfl⟩)
          go_ret2
          exact ⟨.slice none 0 0, by rw [B.out.1]; rfl, by rw [B.out.2]; exact URow.none _, hb2⟩
        · have HV := Lib.hid (show wordV x.data.toList = hv (ps.getD (n - 1 - j) []) by
            unfold wordV; rw [hok, if_pos rfl, show n - 1 - j = k by omega, List.getD_eq_getElem?_getD, hpx.out]; rfl)
          have HT2 := Lib.hid (HTK.out true hok)
          rw [hok] at RW
          generalize wordV x.data.toList = y at *
          clear hx hown hok hxl hpc hj
          go_wp2_with (go_at_call 25; refine (RW.out _).mono ?_; rintro e w' ⟨rfl, rfl⟩)
          go_roundw
          case rel => exact ⟨k + 1, by omega, by go_num, Lib.hid HT2.out, (Below.heap_setCell _ _ _ _ (by simp)).trans HPC.out, own_step HO.out HV.out (fun i hi => by have := HJ.out; rw [Bool.eq_iff_iff]; simp; omega), hb2.setCell (p := ⟨w.heap.size + 1, j, none⟩) (by simp) _⟩
          case measure => simp [intOf]; omega
      · obtain rfl : k = n := by omega
        have G := Lib.hid (EK.out (by have := hd.out; rwa [List.take_of_length_le (by rw [HN.out]; exact Nat.le_refl _)] at this))
        have HO := Lib.hid (show URow wr (rowV (w.heap.size + 1) k k) (parseRow ps) from by
          have e := part_row (fun j => decide (k - k ≤ j)) ps (fun j _ => by simp)
          rw [← HN.out] at e
          rw [e] at hown
          have := hown.row
          rw [parseRow_len, ← HN.out] at this
          exact this)
        clear hown
        go_wp2
        go_ret2
        exact ⟨_, by rw [G.out.1]; rfl, by rw [G.out.2]; exact HO.out, hb2⟩
end Go.Proofs.YtnegnmjjibhldaaDoor
