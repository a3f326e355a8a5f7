/- Layer 1: the laws on names and quotes, walked. -/
import Derived.Test.YtodhbcpjlmeijaaDoorZ
import Derived.Test.YtodhbcpjlmeijaaDoorM
namespace Go.Proofs.YtodhbcpjlmeijaaDoor
open Go.RowKit
set_option maxRecDepth 100000 in
theorem names_any (s : ByteArray) (lo hi : Int) (l0 : -9223372036854775808 ≤ lo ∧ lo ≤ 9223372036854775807) (h0 : -9223372036854775808 ≤ hi ∧ hi ≤ 9223372036854775807) (w : World) (hw : LW w) :
    Calls Tryd.prog 3 #[.string s, .int .i64 lo, .int .i64 hi] w fun e w' => e = .returned (.bool true) ∧ Below w.heap.size w w' := by
  have SH := Lib.hid (fun w' (h : Below w.heap.size w w') => shown_any w' (hw.below h))
  have hbc := Below.refl w.heap.size w
  by_cases hs : 1000 < s.size
  · have hb : decide ((1000 : Int) < (s.size : Int)) = true := decide_eq_true (by omega)
    clear hs hw
    go_enter Tryd.func3, Tryd.ntmps3
    go_wp2_with (go_at_call 11; refine (SH.out _ hbc).mono ?_; rintro e w2 ⟨rfl, hn⟩; have hbc := hbc.trans (hn.mono hbc.size))
    go_ret
    exact ⟨rfl, hbc⟩
  · have hb : decide ((1000 : Int) < (s.size : Int)) = false := decide_eq_false (by omega)
    have hs1 : s.size ≤ maxLen := by unfold maxLen; omega
    have I1 := Lib.hid (fun w' (h : Below w.heap.size w w') => int_any s lo hi l0.1 h0.2 w' (hw.below h) (by omega))
    have I2 := Lib.hid (fun w' => rint_any s lo hi l0.1 h0.2 w' hs1)
    have N1 := Lib.hid (fun w' => name_any s w' hs1)
    have N2 := Lib.hid (fun w' => rname_any s w' hs1)
    have DL := Lib.hid (fun w' (h : Below w.heap.size w w') => digits_any lo l0.1 l0.2 w' (hw.below h))
    have DH := Lib.hid (fun w' (h : Below w.heap.size w w') => digits_any hi h0.1 h0.2 w' (hw.below h))
    have RL := Lib.hid (rdigits_any lo l0.1 l0.2)
    have RH := Lib.hid (rdigits_any hi h0.1 h0.2)
    generalize intV s.data.toList lo hi = V at I1 I2
    generalize intE s.data.toList lo hi = E at I1 I2
    generalize nameL s.data.toList = B at N1 N2
    generalize (⟨(Lib.itoa lo).toArray⟩ : ByteArray) = SL at DL RL
    generalize (⟨(Lib.itoa hi).toArray⟩ : ByteArray) = SHi at DH RH
    clear hs hw hs1 l0 h0
    go_enter Tryd.func3, Tryd.ntmps3
    go_wp2_with (first
      | (go_at_call 12; refine (I1.out _ hbc).mono ?_; rintro e w1 ⟨rfl, hn⟩; have hbc := hbc.trans (hn.mono hbc.size))
      | (go_at_call 13; refine (I2.out _).mono ?_; rintro e w1 ⟨rfl, rfl⟩)
      | (go_at_call 14; refine (N1.out _).mono ?_; rintro e w1 ⟨rfl, rfl⟩)
      | (go_at_call 15; refine (N2.out _).mono ?_; rintro e w1 ⟨rfl, rfl⟩)
      | (go_at_call 16; first | (refine (DL.out _ hbc).mono ?_; clear DL; rintro e w1 ⟨rfl, hn⟩; have hbc := hbc.trans (hn.mono hbc.size)) | (refine (DH.out _ hbc).mono ?_; rintro e w1 ⟨rfl, hn⟩; have hbc := hbc.trans (hn.mono hbc.size)))
      | (go_at_call 17; first | (refine (RL.out _).mono ?_; clear RL; rintro e w1 ⟨rfl, hn⟩; have hbc := hbc.trans (hn.mono hbc.size)) | (refine (RH.out _).mono ?_; rintro e w1 ⟨rfl, hn⟩; have hbc := hbc.trans (hn.mono hbc.size)))
      | (go_at_call 11; refine (SH.out _ hbc).mono ?_; rintro e w2 ⟨rfl, hn⟩; have hbc := hbc.trans (hn.mono hbc.size)))
    go_ret
    exact ⟨rfl, hbc⟩
set_option maxRecDepth 100000 in
theorem quotes_any (s : ByteArray) (w : World) (hw : LW w) :
    Calls Tryd.prog 4 #[.string s] w fun e w' => e = .returned (.bool true) ∧ Below w.heap.size w w' := by
  have SH := Lib.hid (fun w' (h : Below w.heap.size w w') => shown_any w' (hw.below h))
  have hbc := Below.refl w.heap.size w
  by_cases hs : 1000 < s.size
  · have hb : decide ((1000 : Int) < (s.size : Int)) = true := decide_eq_true (by omega)
    clear hs hw
    go_enter Tryd.func4, Tryd.ntmps4
    go_wp2_with (go_at_call 11; refine (SH.out _ hbc).mono ?_; rintro e w2 ⟨rfl, hn⟩; have hbc := hbc.trans (hn.mono hbc.size))
    go_ret
    exact ⟨rfl, hbc⟩
  · have hb : decide ((1000 : Int) < (s.size : Int)) = false := decide_eq_false (by omega)
    have U1 := Lib.hid (fun w' (h : Below w.heap.size w w') => unquote_any s w' (hw.below h) (by omega))
    have U2 := Lib.hid (fun w' => runquote_any s w' (by omega))
    have Q1 := Lib.hid (fun w' (h : Below w.heap.size w w') => quote_any s w' (hw.below h) (by omega))
    have Q2 := Lib.hid (fun w' => rquote_any s w' (by omega))
    generalize (⟨(unqT s.data.toList).toArray⟩ : ByteArray) = T at U1 U2
    generalize unqE s.data.toList = E at U1 U2
    generalize (⟨(quoteL s.data.toList).toArray⟩ : ByteArray) = Q at Q1 Q2
    clear hs hw
    go_enter Tryd.func4, Tryd.ntmps4
    go_wp2_with (first
      | (go_at_call 18; refine (U1.out _ hbc).mono ?_; rintro e w1 ⟨rfl, hn⟩; have hbc := hbc.trans (hn.mono hbc.size))
      | (go_at_call 19; refine (U2.out _).mono ?_; rintro e w1 ⟨rfl, hn⟩; have hbc := hbc.trans (hn.mono hbc.size))
      | (go_at_call 20; refine (Q1.out _ hbc).mono ?_; rintro e w1 ⟨rfl, hn⟩; have hbc := hbc.trans (hn.mono hbc.size))
      | (go_at_call 21; refine (Q2.out _).mono ?_; rintro e w1 ⟨rfl, hn⟩; have hbc := hbc.trans (hn.mono hbc.size))
      | (go_at_call 11; refine (SH.out _ hbc).mono ?_; rintro e w2 ⟨rfl, hn⟩; have hbc := hbc.trans (hn.mono hbc.size)))
    go_ret
    exact ⟨rfl, hbc⟩
end Go.Proofs.YtodhbcpjlmeijaaDoor
