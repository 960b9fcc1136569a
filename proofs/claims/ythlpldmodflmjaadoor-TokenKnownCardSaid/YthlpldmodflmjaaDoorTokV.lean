/- The contracts of layer 5's number and count. -/
import Derived.Test.YthlpldmodflmjaaDoorTokU
import Derived.Test.YthlpldmodflmjaaDoorTokL
import Derived.Test.YthlpldmodflmjaaDoorTokS
import Derived.Test.YthlpldmodflmjaaDoorShelf
import Derived.WalkSmall
namespace Go.Proofs.YthlpldmodflmjaaDoor
open Go.RowKit

theorem below_bytesR (w : World) (t : ByteArray) : Below w.heap.size w (Lib.bytesWorld w 5 t) := Lib.bytesWorld_below _ _ _
theorem parseOkR (s : ByteArray) (u : Nat) (h : Lib.parseUintB 64 s.data.toList = .ok u) (hs : s.size ≤ 100000) (w : World) :
    Calls Tryd.prog 66 #[.string s, .int .i64 10, .int .i64 64] w fun e w' => e = .returned (.tuple #[.int .u64 u, .nilIface]) ∧ Below w.heap.size w w' :=
  (Tryd.strconv_ParseUint_10_at64_ok s (by omega) u h w).mono fun e w' ⟨h1, h2⟩ => ⟨h1, by
    rcases h2 with rfl | rfl
    · exact Below.refl _ _
    · exact below_bytesR w s⟩

set_option maxHeartbeats 2000000 in
theorem tokNumber (s : ByteArray) (hI : isIntB s.data.toList = true) (hs : s.size ≤ 100000) (w : World) (hL : LaidR w) :
    Calls Tryd.prog 62 #[.string s] w fun e w' => e = .returned (.tuple #[.int .i64 (numV s.data.toList).1, .int .i64 (if (numV s.data.toList).2 = true then 0 else 51)]) ∧ Below w.heap.size w w' := by
  have hl := size_len_ s
  have hpos : 0 < s.size := by
    have := ((isIntB_iff _).1 hI).1
    have := List.length_pos_iff.2 this
    omega
  obtain ⟨c, hc, hidx⟩ := byte_is s 0 hpos
  rcases digits_ways s.data.toList hI with ⟨_, hp, hd, h0, hv⟩ | ⟨_, hp, hv⟩ | ⟨_, hp, hd, hd2, hv⟩ | ⟨_, hp, hd, h1, h0, hv⟩
  · rw [hv]
    have hq := fun w => parseOkR s _ hp hs w
    generalize dv s.data.toList = u at *
    have hd : ¬ (9223372036854775808 : Int) < (u : Int) := by omega
    generalize (u : Int) = v at *
    have hgt : ((9223372036854775808 : Int) < v) = False := eq_false hd
    have hz : Hid (((c.toNat : Nat) : Int) = 48 → ¬ (1 : Int) < s.size) := fun e => by
      have : c = 48 := UInt8.toNat_inj.1 (by show _ = 48; omega)
      rcases h0 with h | h
      · omega
      · exact absurd (hc.trans (by rw [this])) h
    obtain ⟨z, hzz⟩ : ∃ z : Int, z = ((c.toNat : Nat) : Int) := ⟨_, rfl⟩
    have hidx : ∀ w, (Go.Instr.index 9 (.string s) (.int .i64 0)).run Tryd.prog w = .ok (.int .u8 z) w := by rw [hzz]; exact hidx
    rw [← hzz] at hz
    have hwr : IntKind.i64.wrap v = wrap64 v := by first | rfl | (simp [wrap64, IntKind.wrap_i64])
    rw [hwr]
    clear hd h0 hv hI hl hc hzz hp hwr
    by_cases e48 : z = 48
    · have k1 := hz.out e48
      subst e48
      clear hz
      go_enter Tryd.func62, Tryd.ntmps62
      go_wp2_with fail
      refine (hq _).mono ?_
      rintro e w1 ⟨rfl, hb⟩
      go_wp2_with fail
      go_ret2
      exact ⟨rfl, hb⟩
    · have f48 : (z == 48) = false := by simp [e48]
      clear hz
      go_enter Tryd.func62, Tryd.ntmps62
      go_wp2_with fail
      refine (hq _).mono ?_
      rintro e w1 ⟨rfl, hb⟩
      go_wp2_with fail
      go_ret2
      exact ⟨rfl, hb⟩
  · rw [hv]
    obtain ⟨tp, p, hvar⟩ := hL.rng
    have hq := Tryd.strconv_ParseUint_10_at64_range_var s (by omega) hp tp p w hvar
    clear hvar hp hv hI hl hc hidx
    go_enter Tryd.func62, Tryd.ntmps62
    go_wp2_with fail
    refine hq.mono ?_
    rintro e w1 ⟨N, rfl, _, _, hb⟩
    go_wp2_with fail
    go_ret2
    exact ⟨rfl, hb⟩
  · rw [hv]
    have hq := fun w => parseOkR s _ hp hs w
    generalize dv s.data.toList = u at *
    have hd : (9223372036854775808 : Int) < (u : Int) := by omega
    generalize (u : Int) = v at *
    have hgt : ((9223372036854775808 : Int) < v) = True := eq_true hd
    clear hd hd2 hv hI hl hc hp hidx
    go_enter Tryd.func62, Tryd.ntmps62
    go_wp2_with fail
    refine (hq _).mono ?_
    rintro e w1 ⟨rfl, hb⟩
    go_wp2_with fail
    go_ret2
    exact ⟨rfl, hb⟩
  · rw [hv]
    have hq := fun w => parseOkR s _ hp hs w
    generalize dv s.data.toList = u at *
    have hd : ¬ (9223372036854775808 : Int) < (u : Int) := by omega
    generalize (u : Int) = v at *
    have hgt : ((9223372036854775808 : Int) < v) = False := eq_false hd
    have hc48 : c = 48 := by
      have := hc.symm.trans h0
      injection this
    subst hc48
    have hidx : ∀ w, (Go.Instr.index 9 (.string s) (.int .i64 0)).run Tryd.prog w = .ok (.int .u8 48) w := hidx
    have k1 : (1 : Int) < s.size := by omega
    clear hd h0 hv hI hl hc hp h1
    go_enter Tryd.func62, Tryd.ntmps62
    go_wp2_with fail
    refine (hq _).mono ?_
    rintro e w1 ⟨rfl, hb⟩
    go_wp2_with fail
    go_ret2
    exact ⟨rfl, hb⟩
end Go.Proofs.YthlpldmodflmjaaDoor
