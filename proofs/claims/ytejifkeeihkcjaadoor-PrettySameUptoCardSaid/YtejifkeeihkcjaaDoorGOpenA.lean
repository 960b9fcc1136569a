/- Expressions, statements, declarations and programs that came in: what a row's proof tells of them; their bulks. Programs and expressions that came in, as in OpenA: that their numbers lie within int64, and that rows of parameters are no longer than their room (written by tools/gen_openb.py). -/
import Derived.Test.YtejifkeeihkcjaaDoorGAstB
import Derived.Test.YtejifkeeihkcjaaDoorGAstV
import Derived.Test.YtejifkeeihkcjaaDoorRows
import Derived.Deep.Slices
import Derived.Carry
import Derived.ChangeSame
import Derived.Test.YtejifkeeihkcjaaDoorGPrE
namespace Go.Proofs.YtejifkeeihkcjaaDoor
section
open Go.RowKit Go.ChangeShapes Go.WideShapes Go.ChangeAt Go.Deep
set_option maxRecDepth 100000

section
variable {H : Type} {enc : TypeId × Value → H} {w : World} {base : Nat} {sp : Nat → Bool} {held : Bool}
theorem bulk1 (d : DataW H) : 1 ≤ Rows.uptoBulk d := by
  cases d with
  | lit l => cases l <;> simp [Rows.uptoBulk]
  | nil => simp [Rows.uptoBulk]
  | ptr d => simp [Rows.uptoBulk]
  | slice elems spare => simp [Rows.uptoBulk]
  | agg parts => simp [Rows.uptoBulk]
  | iface t d => simp [Rows.uptoBulk]
  | map entries => simp [Rows.uptoBulk]
  | held h => simp [Rows.uptoBulk]
theorem struct6a {t : TypeId} {f0 f1 f2 f3 f4 f5 : Field} {fuel : Nat} {cs : List Value} {x : DataW H × List MemPlace} (ht : Tryd.prog.underlying t = some (.struct #[f0, f1, f2, f3, f4, f5])) (h : DataW.trod enc Tryd.prog w base sp held fuel t cs = some x) :
    ∃ y0 y1 y2 y3 y4 y5 n, fuel = n + 1 ∧ x.1 = .agg [y0.1, y1.1, y2.1, y3.1, y4.1, y5.1] ∧ cs.length = Tryd.prog.cellsOf t ∧ DataW.trod enc Tryd.prog w base sp held n f0.type ((cs.drop f0.offset).take (Tryd.prog.cellsOf f0.type)) = some y0 ∧ DataW.trod enc Tryd.prog w base sp held n f1.type ((cs.drop f1.offset).take (Tryd.prog.cellsOf f1.type)) = some y1 ∧ DataW.trod enc Tryd.prog w base sp held n f2.type ((cs.drop f2.offset).take (Tryd.prog.cellsOf f2.type)) = some y2 ∧ DataW.trod enc Tryd.prog w base sp held n f3.type ((cs.drop f3.offset).take (Tryd.prog.cellsOf f3.type)) = some y3 ∧ DataW.trod enc Tryd.prog w base sp held n f4.type ((cs.drop f4.offset).take (Tryd.prog.cellsOf f4.type)) = some y4 ∧ DataW.trod enc Tryd.prog w base sp held n f5.type ((cs.drop f5.offset).take (Tryd.prog.cellsOf f5.type)) = some y5 := by
  obtain ⟨xs, n, hn, rfl, hl, hlen, hf⟩ := DataW.trod_struct ht h
  match xs, hlen with
  | [y0, y1, y2, y3, y4, y5], _ => exact ⟨y0, y1, y2, y3, y4, y5, n, hn, rfl, hl, by simpa using hf 0 f0 rfl, by simpa using hf 1 f1 rfl, by simpa using hf 2 f2 rfl, by simpa using hf 3 f3 rfl, by simpa using hf 4 f4 rfl, by simpa using hf 5 f5 rfl⟩
theorem struct8a {t : TypeId} {f0 f1 f2 f3 f4 f5 f6 f7 : Field} {fuel : Nat} {cs : List Value} {x : DataW H × List MemPlace} (ht : Tryd.prog.underlying t = some (.struct #[f0, f1, f2, f3, f4, f5, f6, f7])) (h : DataW.trod enc Tryd.prog w base sp held fuel t cs = some x) :
    ∃ y0 y1 y2 y3 y4 y5 y6 y7 n, fuel = n + 1 ∧ x.1 = .agg [y0.1, y1.1, y2.1, y3.1, y4.1, y5.1, y6.1, y7.1] ∧ cs.length = Tryd.prog.cellsOf t ∧ DataW.trod enc Tryd.prog w base sp held n f0.type ((cs.drop f0.offset).take (Tryd.prog.cellsOf f0.type)) = some y0 ∧ DataW.trod enc Tryd.prog w base sp held n f1.type ((cs.drop f1.offset).take (Tryd.prog.cellsOf f1.type)) = some y1 ∧ DataW.trod enc Tryd.prog w base sp held n f2.type ((cs.drop f2.offset).take (Tryd.prog.cellsOf f2.type)) = some y2 ∧ DataW.trod enc Tryd.prog w base sp held n f3.type ((cs.drop f3.offset).take (Tryd.prog.cellsOf f3.type)) = some y3 ∧ DataW.trod enc Tryd.prog w base sp held n f4.type ((cs.drop f4.offset).take (Tryd.prog.cellsOf f4.type)) = some y4 ∧ DataW.trod enc Tryd.prog w base sp held n f5.type ((cs.drop f5.offset).take (Tryd.prog.cellsOf f5.type)) = some y5 ∧ DataW.trod enc Tryd.prog w base sp held n f6.type ((cs.drop f6.offset).take (Tryd.prog.cellsOf f6.type)) = some y6 ∧ DataW.trod enc Tryd.prog w base sp held n f7.type ((cs.drop f7.offset).take (Tryd.prog.cellsOf f7.type)) = some y7 := by
  obtain ⟨xs, n, hn, rfl, hl, hlen, hf⟩ := DataW.trod_struct ht h
  match xs, hlen with
  | [y0, y1, y2, y3, y4, y5, y6, y7], _ => exact ⟨y0, y1, y2, y3, y4, y5, y6, y7, n, hn, rfl, hl, by simpa using hf 0 f0 rfl, by simpa using hf 1 f1 rfl, by simpa using hf 2 f2 rfl, by simpa using hf 3 f3 rfl, by simpa using hf 4 f4 rfl, by simpa using hf 5 f5 rfl, by simpa using hf 6 f6 rfl, by simpa using hf 7 f7 rfl⟩
theorem anInt {t : TypeId} {k : IntKind} {fuel : Nat} {cs : List Value} {x : DataW H × List MemPlace} (ht : Tryd.prog.underlying t = some (.int k)) (h : DataW.trod enc Tryd.prog w base sp held fuel t cs = some x) : ∃ n, cs = [.int k n] := by
  obtain ⟨n, e, _, _⟩ := DataW.trod_int ht h
  exact ⟨n, e⟩
theorem aText {fuel : Nat} {cs : List Value} {x : DataW H × List MemPlace} (h : DataW.trod enc Tryd.prog w base sp held fuel 9 cs = some x) : ∃ s : List UInt8, cs = [.string ⟨s.toArray⟩] ∧ Rows.uptoBulk x.1 = s.length + 1 := by
  obtain ⟨s, e, rfl, _⟩ := DataW.trod_string Tryd.underlying9 h
  exact ⟨s.data.toList, by rw [e], by simp [Rows.uptoBulk]⟩
theorem aPos {fuel : Nat} {cs : List Value} {x : DataW H × List MemPlace} (h : DataW.trod enc Tryd.prog w base sp held fuel 30 cs = some x) : ∃ l c, cs = [.int .i64 l, .int .i64 c] := by
  obtain ⟨y0, y1, n, _, hl, h0, h1⟩ := trod_struct2 Tryd.underlying30 h
  rw [show Tryd.prog.cellsOf 30 = 2 by kernel_rfl] at hl
  match cs, hl with
  | [c0, c1], _ =>
    simp only [show Tryd.prog.cellsOf 3 = 1 by kernel_rfl] at h0 h1
    obtain ⟨l, e0⟩ := anInt Tryd.underlying3 h0
    obtain ⟨c, e1⟩ := anInt Tryd.underlying3 h1
    simp at e0 e1
    subst e0 e1
    exact ⟨l, c, rfl⟩
theorem cellsAt {W : World} {b k : Nat} {ad : Addr} {cs : List Value} (h : W.cells? b ad k = some cs) : ∀ j v, cs[j]? = some v → W.cell? (ad.add j) = some v := fun j v hj => by
  obtain ⟨_, hl, hc⟩ := World.cells?_some h
  have := (List.getElem?_eq_some_iff.1 hj).1
  rw [hc j (by omega), hj]
theorem two_adds (p : Addr) (i k : Nat) : (p.add k).add (i * k) = p.add ((i + 1) * k) := by
  rw [addr_add, Nat.add_one_mul, Nat.add_comm k]

/-- What a row's elements give, when one gives it. -/
theorem rowsX {n : Nat} {t : TypeId} (hk : Tryd.prog.cellsOf t = 7) (h1 : ∀ cs x, DataW.trod enc Tryd.prog w base sp held n t cs = some x → ∃ e : XV, XC w e cs ∧ xbk1 e ≤ Rows.uptoBulk x.1) :
    ∀ (ys : List (DataW H × List MemPlace)) (ad : Addr), (∀ i, i < ys.length → (w.cells? base (ad.add (i * 7)) 7).bind (DataW.trod enc Tryd.prog w base sp held n t) = ys[i]?) → ∃ es : List XV, es.length = ys.length ∧ XS w es ad ∧ xbk es ≤ Rows.uptoBulkAll (ys.map (·.1))
  | [], ad, _ => ⟨[], rfl, by unfold XS; trivial, by simp [xbk]⟩
  | y :: r, ad, h => by
    have h0 := h 0 (by simp)
    simp only [Nat.zero_mul, List.getElem?_cons_zero, Option.bind_eq_some_iff] at h0
    rw [show ad.add 0 = ad by simp [Addr.add]] at h0
    obtain ⟨cs, hc, ht⟩ := h0
    obtain ⟨e, he, hb⟩ := h1 cs y ht
    obtain ⟨es, hl, hs, hbs⟩ := rowsX hk h1 r (ad.add 7) (fun i hi => by
      have := h (i + 1) (by simpa using hi)
      rw [two_adds]
      simpa using this)
    exact ⟨e :: es, by simp [hl], by unfold XS; exact ⟨⟨cs, he, cellsAt hc⟩, hs⟩, by simp only [xbk, List.map_cons, Rows.uptoBulkAll]; omega⟩
theorem rowsS {n : Nat} {t : TypeId} (hk : Tryd.prog.cellsOf t = 7) (h1 : ∀ cs x, DataW.trod enc Tryd.prog w base sp held n t cs = some x → ∃ e : SV, SC w e cs ∧ sbk1 e ≤ Rows.uptoBulk x.1) :
    ∀ (ys : List (DataW H × List MemPlace)) (ad : Addr), (∀ i, i < ys.length → (w.cells? base (ad.add (i * 7)) 7).bind (DataW.trod enc Tryd.prog w base sp held n t) = ys[i]?) → ∃ es : List SV, es.length = ys.length ∧ SS w es ad ∧ sbk es ≤ Rows.uptoBulkAll (ys.map (·.1))
  | [], ad, _ => ⟨[], rfl, by unfold SS; trivial, by simp [sbk]⟩
  | y :: r, ad, h => by
    have h0 := h 0 (by simp)
    simp only [Nat.zero_mul, List.getElem?_cons_zero, Option.bind_eq_some_iff] at h0
    rw [show ad.add 0 = ad by simp [Addr.add]] at h0
    obtain ⟨cs, hc, ht⟩ := h0
    obtain ⟨e, he, hb⟩ := h1 cs y ht
    obtain ⟨es, hl, hs, hbs⟩ := rowsS hk h1 r (ad.add 7) (fun i hi => by
      have := h (i + 1) (by simpa using hi)
      rw [two_adds]
      simpa using this)
    exact ⟨e :: es, by simp [hl], by unfold SS; exact ⟨⟨cs, he, cellsAt hc⟩, hs⟩, by simp only [sbk, List.map_cons, Rows.uptoBulkAll]; omega⟩
theorem rowsD {n : Nat} {t : TypeId} (h1 : ∀ cs x, DataW.trod enc Tryd.prog w base sp held n t cs = some x → ∃ e : DV, DC w e cs ∧ dbk1 e ≤ Rows.uptoBulk x.1) :
    ∀ (ys : List (DataW H × List MemPlace)) (ad : Addr), (∀ i, i < ys.length → (w.cells? base (ad.add (i * 9)) 9).bind (DataW.trod enc Tryd.prog w base sp held n t) = ys[i]?) → ∃ es : List DV, es.length = ys.length ∧ (∀ i e, es[i]? = some e → ∃ cs, DC w e cs ∧ ∀ j v, cs[j]? = some v → w.cell? ((ad.add (i * 9)).add j) = some v) ∧ dbk es ≤ Rows.uptoBulkAll (ys.map (·.1))
  | [], ad, _ => ⟨[], rfl, fun i e h => by simp at h, by simp [dbk]⟩
  | y :: r, ad, h => by
    have h0 := h 0 (by simp)
    simp only [Nat.zero_mul, List.getElem?_cons_zero, Option.bind_eq_some_iff] at h0
    rw [show ad.add 0 = ad by simp [Addr.add]] at h0
    obtain ⟨cs, hc, ht⟩ := h0
    obtain ⟨e, he, hb⟩ := h1 cs y ht
    obtain ⟨es, hl, hs, hbs⟩ := rowsD h1 r (ad.add 9) (fun i hi => by
      have := h (i + 1) (by simpa using hi)
      rw [two_adds]
      simpa using this)
    refine ⟨e :: es, by simp [hl], fun i e' hi => ?_, by simp only [dbk, List.map_cons, Rows.uptoBulkAll]; omega⟩
    cases i with
    | zero =>
      simp at hi
      subst hi
      rw [Nat.zero_mul, show ad.add 0 = ad by simp [Addr.add]]
      exact ⟨cs, he, cellsAt hc⟩
    | succ i =>
      have := hs i e' (by simpa using hi)
      rwa [two_adds] at this
theorem rowsN {n : Nat} : ∀ (ys : List (DataW H × List MemPlace)) (ad : Addr), (∀ i, i < ys.length → (w.cells? base (ad.add (i * 1)) 1).bind (DataW.trod enc Tryd.prog w base sp held n 9) = ys[i]?) → ∃ r : List (List UInt8), r.length = ys.length ∧ (∀ j v, (strs r)[j]? = some v → w.cell? (ad.add j) = some v) ∧ pbk r ≤ Rows.uptoBulkAll (ys.map (·.1))
  | [], ad, _ => ⟨[], rfl, fun j v h => by simp [strs] at h, by simp [pbk]⟩
  | y :: r, ad, h => by
    have h0 := h 0 (by simp)
    simp only [Nat.zero_mul, List.getElem?_cons_zero, Option.bind_eq_some_iff] at h0
    rw [show ad.add 0 = ad by simp [Addr.add]] at h0
    obtain ⟨cs, hc, ht⟩ := h0
    obtain ⟨s, rfl, hb⟩ := aText ht
    obtain ⟨es, hl, hs, hbs⟩ := rowsN r (ad.add 1) (fun i hi => by
      have := h (i + 1) (by simpa using hi)
      rw [two_adds]
      simpa using this)
    refine ⟨s :: es, by simp [hl], fun j v hj => ?_, by simp only [pbk, List.map_cons, Rows.uptoBulkAll]; omega⟩
    cases j with
    | zero => exact cellsAt hc 0 v (by simpa [strs] using hj)
    | succ j =>
      have := hs j v (by simpa [strs] using hj)
      rwa [addr_add, Nat.add_comm] at this

theorem sliceX {n : Nat} (h1 : ∀ m, m < n → ∀ cs x, DataW.trod enc Tryd.prog w base sp held m 32 cs = some x → ∃ e : XV, XC w e cs ∧ xbk1 e ≤ Rows.uptoBulk x.1) {cs : List Value} {x : DataW H × List MemPlace}
    (h : DataW.trod enc Tryd.prog w base sp held n 28 cs = some x) : ∃ (es : List XV) (A : Option Addr) (c : Nat), cs = [.slice A es.length c] ∧ XR w A es ∧ xbk es + 1 ≤ Rows.uptoBulk x.1 := by
  rcases DataW.trod_slice Tryd.underlying28 h with ⟨rfl, rfl⟩ | ⟨a, len, cap, ys, rest, m, rfl, rfl, rfl, _, _, _, hlen, hel, _⟩
  · exact ⟨[], none, 0, rfl, XR.nil _ _, by simp [xbk, Rows.uptoBulk]⟩
  · rw [show Tryd.prog.cellsOf 32 = 7 by kernel_rfl] at hel
    subst hlen
    obtain ⟨es, hl, hs, hb⟩ := rowsX (by kernel_rfl) (h1 m (by omega)) ys a hel
    exact ⟨es, some a, cap, by rw [hl], fun _ => ⟨a, rfl, hs⟩, by simp only [Rows.uptoBulk]; omega⟩
theorem sliceS {n : Nat} (h1 : ∀ m, m < n → ∀ cs x, DataW.trod enc Tryd.prog w base sp held m 37 cs = some x → ∃ e : SV, SC w e cs ∧ sbk1 e ≤ Rows.uptoBulk x.1) {cs : List Value} {x : DataW H × List MemPlace}
    (h : DataW.trod enc Tryd.prog w base sp held n 23 cs = some x) : ∃ (es : List SV) (A : Option Addr) (c : Nat), cs = [.slice A es.length c] ∧ SR w A es ∧ sbk es + 1 ≤ Rows.uptoBulk x.1 := by
  rcases DataW.trod_slice Tryd.underlying23 h with ⟨rfl, rfl⟩ | ⟨a, len, cap, ys, rest, m, rfl, rfl, rfl, _, _, _, hlen, hel, _⟩
  · exact ⟨[], none, 0, rfl, SR.nil _ _, by simp [sbk, Rows.uptoBulk]⟩
  · rw [show Tryd.prog.cellsOf 37 = 7 by kernel_rfl] at hel
    subst hlen
    obtain ⟨es, hl, hs, hb⟩ := rowsS (by kernel_rfl) (h1 m (by omega)) ys a hel
    exact ⟨es, some a, cap, by rw [hl], fun _ => ⟨a, rfl, hs⟩, by simp only [Rows.uptoBulk]; omega⟩
theorem sliceN {n : Nat} {cs : List Value} {x : DataW H × List MemPlace} (h : DataW.trod enc Tryd.prog w base sp held n 45 cs = some x) : ∃ (r : List (List UInt8)) (A : Option Addr) (c : Nat), cs = [.slice A r.length c] ∧ RowS w A r.length r ∧ pbk r + 1 ≤ Rows.uptoBulk x.1 := by
  rcases DataW.trod_slice Tryd.underlying45 h with ⟨rfl, rfl⟩ | ⟨a, len, cap, ys, rest, m, rfl, rfl, rfl, _, _, _, hlen, hel, _⟩
  · exact ⟨[], none, 0, rfl, ⟨rfl, fun h => absurd h (by simp)⟩, by simp [pbk, Rows.uptoBulk]⟩
  · rw [show Tryd.prog.cellsOf 9 = 1 by kernel_rfl] at hel
    subst hlen
    obtain ⟨r, hl, hs, hb⟩ := rowsN ys a hel
    refine ⟨r, some a, cap, by rw [hl], ⟨by simp [strs], fun hn => ⟨a, rfl, ?_, hs⟩⟩, by simp only [Rows.uptoBulk]; omega⟩
    have h0 : 0 < (strs r).length := by simpa [strs] using hn
    have : (strs r)[0]? = some (strs r)[0] := List.getElem?_eq_getElem h0
    have := World.block_lt_of_cell? w _ (hs 0 _ this)
    rwa [block_of_add] at this

theorem trodX (n : Nat) : ∀ cs x, DataW.trod enc Tryd.prog w base sp held n 32 cs = some x → ∃ e : XV, XC w e cs ∧ xbk1 e ≤ Rows.uptoBulk x.1 := by
  induction n using Nat.strongRecOn with
  | ind n ih =>
  intro cs x h
  obtain ⟨y0, y1, y2, y3, y4, y5, m, rfl, hb, hl, k0, k1, k2, k3, k4, k5⟩ := struct6a Tryd.underlying32 h
  rw [show Tryd.prog.cellsOf 32 = 7 by kernel_rfl] at hl
  match cs, hl with
  | [v0, v1, v2, v3, v4, v5, v6], _ =>
    simp only [show Tryd.prog.cellsOf 26 = 1 by kernel_rfl, show Tryd.prog.cellsOf 2 = 1 by kernel_rfl, show Tryd.prog.cellsOf 9 = 1 by kernel_rfl, show Tryd.prog.cellsOf 27 = 1 by kernel_rfl, show Tryd.prog.cellsOf 28 = 1 by kernel_rfl, show Tryd.prog.cellsOf 30 = 2 by kernel_rfl] at k0 k1 k2 k3 k4 k5
    obtain ⟨k, e0⟩ := anInt Tryd.underlying26 k0
    obtain ⟨nn, e1⟩ := anInt Tryd.underlying2 k1
    obtain ⟨s, e2, b2⟩ := aText k2
    obtain ⟨o, e3⟩ := anInt Tryd.underlying27 k3
    obtain ⟨es, A, c, e4, hx, b4⟩ := sliceX (fun j hj => ih j (by omega)) k4
    obtain ⟨l, cc, e5⟩ := aPos k5
    simp at e0 e1 e2 e3 e4 e5
    obtain ⟨rfl, rfl⟩ := e5
    subst e0 e1 e2 e3 e4
    refine ⟨.mk k nn s o es l cc, by unfold XC; exact ⟨A, c, rfl, hx⟩, ?_⟩
    have := bulk1 y0.1
    have := bulk1 y1.1
    have := bulk1 y3.1
    have := bulk1 y5.1
    rw [hb]
    simp only [xbk1, Rows.uptoBulk, Rows.uptoBulkAll]
    omega
theorem trodS (n : Nat) : ∀ cs x, DataW.trod enc Tryd.prog w base sp held n 37 cs = some x → ∃ e : SV, SC w e cs ∧ sbk1 e ≤ Rows.uptoBulk x.1 := by
  induction n using Nat.strongRecOn with
  | ind n ih =>
  intro cs x h
  obtain ⟨y0, y1, y2, y3, y4, y5, m, rfl, hb, hl, k0, k1, k2, k3, k4, k5⟩ := struct6a Tryd.underlying37 h
  rw [show Tryd.prog.cellsOf 37 = 7 by kernel_rfl] at hl
  match cs, hl with
  | [v0, v1, v2, v3, v4, v5, v6], _ =>
    simp only [show Tryd.prog.cellsOf 35 = 1 by kernel_rfl, show Tryd.prog.cellsOf 9 = 1 by kernel_rfl, show Tryd.prog.cellsOf 23 = 1 by kernel_rfl, show Tryd.prog.cellsOf 28 = 1 by kernel_rfl, show Tryd.prog.cellsOf 30 = 2 by kernel_rfl] at k0 k1 k2 k3 k4 k5
    obtain ⟨k, e0⟩ := anInt Tryd.underlying35 k0
    obtain ⟨s, e1, b1⟩ := aText k1
    obtain ⟨es, A1, c1, e2, hx, b2⟩ := sliceX (fun j _ => trodX j) k2
    obtain ⟨ts, A2, c2, e3, ht, b3⟩ := sliceS (fun j hj => ih j (by omega)) k3
    obtain ⟨us, A3, c3, e4, hu, b4⟩ := sliceS (fun j hj => ih j (by omega)) k4
    obtain ⟨l, cc, e5⟩ := aPos k5
    simp at e0 e1 e2 e3 e4 e5
    obtain ⟨rfl, rfl⟩ := e5
    subst e0 e1 e2 e3 e4
    refine ⟨.mk k s es ts us l cc, by unfold SC; exact ⟨A1, c1, A2, c2, A3, c3, rfl, hx, ht, hu⟩, ?_⟩
    have := bulk1 y0.1
    have := bulk1 y5.1
    rw [hb]
    simp only [sbk1, Rows.uptoBulk, Rows.uptoBulkAll]
    omega
theorem trodD (n : Nat) : ∀ cs x, DataW.trod enc Tryd.prog w base sp held n 47 cs = some x → ∃ e : DV, DC w e cs ∧ dbk1 e ≤ Rows.uptoBulk x.1 := by
  intro cs x h
  obtain ⟨y0, y1, y2, y3, y4, y5, y6, y7, m, rfl, hb, hl, k0, k1, k2, k3, k4, k5, k6, k7⟩ := struct8a Tryd.underlying47 h
  rw [show Tryd.prog.cellsOf 47 = 9 by kernel_rfl] at hl
  match cs, hl with
  | [v0, v1, v2, v3, v4, v5, v6, v7, v8], _ =>
    simp only [show Tryd.prog.cellsOf 44 = 1 by kernel_rfl, show Tryd.prog.cellsOf 9 = 1 by kernel_rfl, show Tryd.prog.cellsOf 2 = 1 by kernel_rfl, show Tryd.prog.cellsOf 23 = 1 by kernel_rfl, show Tryd.prog.cellsOf 45 = 1 by kernel_rfl, show Tryd.prog.cellsOf 30 = 2 by kernel_rfl] at k0 k1 k2 k3 k4 k5 k6 k7
    obtain ⟨k, e0⟩ := anInt Tryd.underlying44 k0
    obtain ⟨s, e1, b1⟩ := aText k1
    obtain ⟨lo, e2⟩ := anInt Tryd.underlying2 k2
    obtain ⟨hi, e3⟩ := anInt Tryd.underlying2 k3
    obtain ⟨sz, e4⟩ := anInt Tryd.underlying2 k4
    obtain ⟨ps, A1, c1, e5, hx, b5⟩ := sliceN k5
    obtain ⟨body, A2, c2, e6, hy, b6⟩ := sliceS (fun j _ => trodS j) k6
    obtain ⟨l, cc, e7⟩ := aPos k7
    simp at e0 e1 e2 e3 e4 e5 e6 e7
    obtain ⟨rfl, rfl⟩ := e7
    subst e0 e1 e2 e3 e4 e5 e6
    refine ⟨⟨k, s, lo, hi, sz, ps, body, l, cc⟩, ⟨A1, c1, A2, c2, rfl, hx, hy⟩, ?_⟩
    have := bulk1 y0.1
    rw [hb]
    simp only [dbk1, Rows.uptoBulk, Rows.uptoBulkAll]
    omega
theorem DR.of_rows {W : World} {a : Addr} {es : List DV} (h : ∀ i e, es[i]? = some e → ∃ cs, DC W e cs ∧ ∀ j v, cs[j]? = some v → W.cell? ((a.add (i * 9)).add j) = some v) : DR W (some a) es := fun _ => ⟨a, rfl, fun i d hd => by
  obtain ⟨cs, ⟨A1, c1, A2, c2, rfl, h1, h2⟩, hc⟩ := h i d hd
  refine ⟨A1, c1, A2, c2, ?_, hc 1 _ rfl, hc 2 _ rfl, hc 3 _ rfl, hc 4 _ rfl, hc 5 _ rfl, hc 6 _ rfl, hc 7 _ rfl, hc 8 _ rfl, h1, h2⟩
  have := hc 0 _ rfl
  rwa [show (a.add (i * 9)).add 0 = a.add (i * 9) by simp [Addr.add]] at this⟩
/-- A program that came in. -/
theorem openProgram {r : Reach} {b0 : Nat} {v : Value} {d : DataW H} {ps : List MemPlace} (hv : Value.okWide Tryd.prog w r b0 25 v) (h : DataW.Trod enc Tryd.prog w base sp held 25 v d ps) :
    ∃ (ds : List DV) (mn : List SV) (A : Option Addr) (c : Nat) (B : Option Addr) (e : Nat), v = pval A ds.length c B mn.length e ∧ DR w A ds ∧ SR w B mn ∧ sbk mn + dbk ds ≤ Rows.uptoBulk d := by
  obtain ⟨cs, rfl, _⟩ := okWide_struct Tryd.underlying25 hv
  obtain ⟨fuel, hf⟩ := h
  have hf0 : DataW.trod enc Tryd.prog w base sp held fuel 25 cs.toList = some (d, ps) := hf
  obtain ⟨y0, y1, m, hxd, hl, k0, k1⟩ := trod_struct2 Tryd.underlying25 hf0
  injection hxd with hd hp
  subst hd
  rw [show Tryd.prog.cellsOf 25 = 2 by kernel_rfl] at hl
  clear hf hf0
  match cs, hl with
  | ⟨[v0, v1]⟩, _ =>
    simp only [show Tryd.prog.cellsOf 22 = 1 by kernel_rfl, show Tryd.prog.cellsOf 23 = 1 by kernel_rfl] at k0 k1
    obtain ⟨mn, B, e, e1, hy, b1⟩ := sliceS (fun j _ => trodS j) k1
    simp at e1
    subst e1
    have hb : ∀ {q : Nat}, q ≤ Rows.uptoBulk y0.1 → sbk mn + q ≤ Rows.uptoBulk (DataW.agg [y0.1, y1.1]) := fun hq => by
      simp only [Rows.uptoBulk, Rows.uptoBulkAll]
      omega
    rcases DataW.trod_slice Tryd.underlying22 k0 with ⟨h0, h1⟩ | ⟨a, len, cap, ys, rest, m', rfl, h0, h1, _, _, _, hlen, hel, _⟩
    · simp at h0 h1
      subst h0
      exact ⟨[], mn, none, 0, B, e, rfl, DR.nil _ _, hy, hb (by simp [dbk])⟩
    · rw [show Tryd.prog.cellsOf 47 = 9 by kernel_rfl] at hel
      simp at h0
      subst hlen h0
      obtain ⟨es, hl, hs, hbb⟩ := rowsD (trodD m') ys a hel
      refine ⟨es, mn, some a, cap, B, e, by rw [← hl]; rfl, DR.of_rows hs, hy, hb ?_⟩
      rw [h1]
      simp only [Rows.uptoBulk]
      omega
/-- An expression that came in. -/
theorem openExpr {r : Reach} {b0 : Nat} {v : Value} {d : DataW H} {ps : List MemPlace} (hv : Value.okWide Tryd.prog w r b0 32 v) (h : DataW.Trod enc Tryd.prog w base sp held 32 v d ps) :
    ∃ (e : XV) (A : Option Addr) (c : Nat), v = xval e A c ∧ XR w A e.gs ∧ xbk1 e ≤ Rows.uptoBulk d := by
  obtain ⟨cs, rfl, _⟩ := okWide_struct Tryd.underlying32 hv
  obtain ⟨fuel, hf⟩ := h
  obtain ⟨e, hc, hb⟩ := trodX fuel cs.toList (d, ps) hf
  cases e with
  | mk k n x o gs l c =>
  unfold XC at hc
  obtain ⟨A, cap, hcs, hx⟩ := hc
  exact ⟨.mk k n x o gs l c, A, cap, by rw [← Array.toArray_toList (xs := cs), hcs]; rfl, hx, hb⟩
/-- A place that came in. -/
theorem openPosA {r : Reach} {b0 : Nat} {v : Value} {d : DataW H} {ps : List MemPlace} (hv : Value.okWide Tryd.prog w r b0 30 v) (h : DataW.Trod enc Tryd.prog w base sp held 30 v d ps) : ∃ l c : Int, v = .agg #[.int .i64 l, .int .i64 c] := by
  obtain ⟨cs, rfl, _⟩ := okWide_struct Tryd.underlying30 hv
  obtain ⟨fuel, hf⟩ := h
  obtain ⟨l, c, hc⟩ := aPos (fuel := fuel) (cs := cs.toList) (x := (d, ps)) hf
  exact ⟨l, c, by rw [← Array.toArray_toList (xs := cs), hc]⟩
end
end

section
open Go.RowKit Go.ChangeShapes Go.WideShapes Go.ChangeAt Go.Deep
set_option maxRecDepth 100000

/-- A declaration, as DC has it; its parameters' row has room for them. -/
def DCb (W : World) (d : DV) (cs : List Value) : Prop := DC W d cs ∧ ∃ (A1 : Option Addr) (c1 : Nat), cs[5]? = some (.slice A1 d.ps.length c1) ∧ d.ps.length ≤ c1
/-- Rows of parameters of a row of declarations: none is longer than its room. -/
def CapD (W : World) (A : Option Addr) (n : Nat) : Prop := ∀ ad, A = some ad → ∀ i, i < n → ∀ A1 m c1, W.cell? ((ad.add (i * 9)).add 5) = some (.slice A1 m c1) → m ≤ c1
theorem int_in {n : Int} (h : (Lit.int .i64 n).wf = true) : -9223372036854775808 ≤ n ∧ n ≤ 9223372036854775807 := by
  simp only [Lit.wf, Bool.and_eq_true, decide_eq_true_eq] at h
  exact h

section
variable {H : Type} {enc : TypeId × Value → H} {w : World} {base : Nat} {sp : Nat → Bool} {held : Bool}
theorem anIntB {t : TypeId} {k : IntKind} {fuel : Nat} {cs : List Value} {x : DataW H × List MemPlace} (ht : Tryd.prog.underlying t = some (.int k)) (h : DataW.trod enc Tryd.prog w base sp held fuel t cs = some x) : ∃ n, cs = [.int k n] ∧ (Lit.int k n).wf = true := by
  obtain ⟨n, e, _, hw⟩ := DataW.trod_int ht h
  exact ⟨n, e, hw⟩
/-- What a row's elements give, when one gives it. -/
theorem rowsXB {n : Nat} {t : TypeId} (hk : Tryd.prog.cellsOf t = 7) (h1 : ∀ cs x, DataW.trod enc Tryd.prog w base sp held n t cs = some x → ∃ e : XV, XC w e cs ∧ inX e = true ∧ xbk1 e ≤ Rows.uptoBulk x.1) :
    ∀ (ys : List (DataW H × List MemPlace)) (ad : Addr), (∀ i, i < ys.length → (w.cells? base (ad.add (i * 7)) 7).bind (DataW.trod enc Tryd.prog w base sp held n t) = ys[i]?) → ∃ es : List XV, es.length = ys.length ∧ XS w es ad ∧ inXs es = true ∧ xbk es ≤ Rows.uptoBulkAll (ys.map (·.1))
  | [], ad, _ => ⟨[], rfl, by unfold XS; trivial, rfl, by simp [xbk]⟩
  | y :: r, ad, h => by
    have h0 := h 0 (by simp)
    simp only [Nat.zero_mul, List.getElem?_cons_zero, Option.bind_eq_some_iff] at h0
    rw [show ad.add 0 = ad by simp [Addr.add]] at h0
    obtain ⟨cs, hc, ht⟩ := h0
    obtain ⟨e, he, hI, hb⟩ := h1 cs y ht
    obtain ⟨es, hl, hs, hIs, hbs⟩ := rowsXB hk h1 r (ad.add 7) (fun i hi => by
      have := h (i + 1) (by simpa using hi)
      rw [two_adds]
      simpa using this)
    exact ⟨e :: es, by simp [hl], by unfold XS; exact ⟨⟨cs, he, cellsAt hc⟩, hs⟩, by unfold inXs; rw [hI, hIs]; rfl, by simp only [xbk, List.map_cons, Rows.uptoBulkAll]; omega⟩
theorem rowsSB {n : Nat} {t : TypeId} (hk : Tryd.prog.cellsOf t = 7) (h1 : ∀ cs x, DataW.trod enc Tryd.prog w base sp held n t cs = some x → ∃ e : SV, SC w e cs ∧ inS e = true ∧ sbk1 e ≤ Rows.uptoBulk x.1) :
    ∀ (ys : List (DataW H × List MemPlace)) (ad : Addr), (∀ i, i < ys.length → (w.cells? base (ad.add (i * 7)) 7).bind (DataW.trod enc Tryd.prog w base sp held n t) = ys[i]?) → ∃ es : List SV, es.length = ys.length ∧ SS w es ad ∧ inSs es = true ∧ sbk es ≤ Rows.uptoBulkAll (ys.map (·.1))
  | [], ad, _ => ⟨[], rfl, by unfold SS; trivial, rfl, by simp [sbk]⟩
  | y :: r, ad, h => by
    have h0 := h 0 (by simp)
    simp only [Nat.zero_mul, List.getElem?_cons_zero, Option.bind_eq_some_iff] at h0
    rw [show ad.add 0 = ad by simp [Addr.add]] at h0
    obtain ⟨cs, hc, ht⟩ := h0
    obtain ⟨e, he, hI, hb⟩ := h1 cs y ht
    obtain ⟨es, hl, hs, hIs, hbs⟩ := rowsSB hk h1 r (ad.add 7) (fun i hi => by
      have := h (i + 1) (by simpa using hi)
      rw [two_adds]
      simpa using this)
    exact ⟨e :: es, by simp [hl], by unfold SS; exact ⟨⟨cs, he, cellsAt hc⟩, hs⟩, by unfold inSs; rw [hI, hIs]; rfl, by simp only [sbk, List.map_cons, Rows.uptoBulkAll]; omega⟩
theorem rowsDB {n : Nat} {t : TypeId} (h1 : ∀ cs x, DataW.trod enc Tryd.prog w base sp held n t cs = some x → ∃ e : DV, DCb w e cs ∧ inD e = true ∧ inR e ∧ dbk1 e ≤ Rows.uptoBulk x.1) :
    ∀ (ys : List (DataW H × List MemPlace)) (ad : Addr), (∀ i, i < ys.length → (w.cells? base (ad.add (i * 9)) 9).bind (DataW.trod enc Tryd.prog w base sp held n t) = ys[i]?) → ∃ es : List DV, es.length = ys.length ∧ (∀ i e, es[i]? = some e → ∃ cs, DCb w e cs ∧ ∀ j v, cs[j]? = some v → w.cell? ((ad.add (i * 9)).add j) = some v) ∧ es.all inD = true ∧ (∀ d ∈ es, inR d) ∧ dbk es ≤ Rows.uptoBulkAll (ys.map (·.1))
  | [], ad, _ => ⟨[], rfl, fun i e h => by simp at h, rfl, fun d h => by simp at h, by simp [dbk]⟩
  | y :: r, ad, h => by
    have h0 := h 0 (by simp)
    simp only [Nat.zero_mul, List.getElem?_cons_zero, Option.bind_eq_some_iff] at h0
    rw [show ad.add 0 = ad by simp [Addr.add]] at h0
    obtain ⟨cs, hc, ht⟩ := h0
    obtain ⟨e, he, hI, hR, hb⟩ := h1 cs y ht
    obtain ⟨es, hl, hs, hIs, hRs, hbs⟩ := rowsDB h1 r (ad.add 9) (fun i hi => by
      have := h (i + 1) (by simpa using hi)
      rw [two_adds]
      simpa using this)
    refine ⟨e :: es, by simp [hl], fun i e' hi => ?_, by simp only [List.all_cons, hI, hIs]; rfl, fun d hd => (List.mem_cons.1 hd).elim (fun e => e ▸ hR) (hRs d), by simp only [dbk, List.map_cons, Rows.uptoBulkAll]; omega⟩
    cases i with
    | zero =>
      simp at hi
      subst hi
      rw [Nat.zero_mul, show ad.add 0 = ad by simp [Addr.add]]
      exact ⟨cs, he, cellsAt hc⟩
    | succ i =>
      have := hs i e' (by simpa using hi)
      rwa [two_adds] at this
theorem sliceXB {n : Nat} (h1 : ∀ m, m < n → ∀ cs x, DataW.trod enc Tryd.prog w base sp held m 32 cs = some x → ∃ e : XV, XC w e cs ∧ inX e = true ∧ xbk1 e ≤ Rows.uptoBulk x.1) {cs : List Value} {x : DataW H × List MemPlace}
    (h : DataW.trod enc Tryd.prog w base sp held n 28 cs = some x) : ∃ (es : List XV) (A : Option Addr) (c : Nat), cs = [.slice A es.length c] ∧ XR w A es ∧ inXs es = true ∧ xbk es + 1 ≤ Rows.uptoBulk x.1 := by
  rcases DataW.trod_slice Tryd.underlying28 h with ⟨rfl, rfl⟩ | ⟨a, len, cap, ys, rest, m, rfl, rfl, rfl, _, _, _, hlen, hel, _⟩
  · exact ⟨[], none, 0, rfl, XR.nil _ _, rfl, by simp [xbk, Rows.uptoBulk]⟩
  · rw [show Tryd.prog.cellsOf 32 = 7 by kernel_rfl] at hel
    subst hlen
    obtain ⟨es, hl, hs, hI, hb⟩ := rowsXB (by kernel_rfl) (h1 m (by omega)) ys a hel
    exact ⟨es, some a, cap, by rw [hl], fun _ => ⟨a, rfl, hs⟩, hI, by simp only [Rows.uptoBulk]; omega⟩
theorem sliceSB {n : Nat} (h1 : ∀ m, m < n → ∀ cs x, DataW.trod enc Tryd.prog w base sp held m 37 cs = some x → ∃ e : SV, SC w e cs ∧ inS e = true ∧ sbk1 e ≤ Rows.uptoBulk x.1) {cs : List Value} {x : DataW H × List MemPlace}
    (h : DataW.trod enc Tryd.prog w base sp held n 23 cs = some x) : ∃ (es : List SV) (A : Option Addr) (c : Nat), cs = [.slice A es.length c] ∧ SR w A es ∧ inSs es = true ∧ sbk es + 1 ≤ Rows.uptoBulk x.1 := by
  rcases DataW.trod_slice Tryd.underlying23 h with ⟨rfl, rfl⟩ | ⟨a, len, cap, ys, rest, m, rfl, rfl, rfl, _, _, _, hlen, hel, _⟩
  · exact ⟨[], none, 0, rfl, SR.nil _ _, rfl, by simp [sbk, Rows.uptoBulk]⟩
  · rw [show Tryd.prog.cellsOf 37 = 7 by kernel_rfl] at hel
    subst hlen
    obtain ⟨es, hl, hs, hI, hb⟩ := rowsSB (by kernel_rfl) (h1 m (by omega)) ys a hel
    exact ⟨es, some a, cap, by rw [hl], fun _ => ⟨a, rfl, hs⟩, hI, by simp only [Rows.uptoBulk]; omega⟩
theorem sliceNB {n : Nat} {cs : List Value} {x : DataW H × List MemPlace} (h : DataW.trod enc Tryd.prog w base sp held n 45 cs = some x) : ∃ (r : List (List UInt8)) (A : Option Addr) (c : Nat), cs = [.slice A r.length c] ∧ RowS w A r.length r ∧ r.length ≤ c ∧ pbk r + 1 ≤ Rows.uptoBulk x.1 := by
  obtain ⟨r, A, c, rfl, h1, h2⟩ := sliceN h
  refine ⟨r, A, c, rfl, h1, ?_, h2⟩
  rcases DataW.trod_slice Tryd.underlying45 h with ⟨e, _⟩ | ⟨a, len, cap, ys, rest, m, _, e, _, _, hc, _⟩
  · injection e with e
    injection e with e1 e2 e3
    omega
  · injection e with e
    injection e with e1 e2 e3
    omega
theorem trodXB (n : Nat) : ∀ cs x, DataW.trod enc Tryd.prog w base sp held n 32 cs = some x → ∃ e : XV, XC w e cs ∧ inX e = true ∧ xbk1 e ≤ Rows.uptoBulk x.1 := by
  induction n using Nat.strongRecOn with
  | ind n ih =>
  intro cs x h
  obtain ⟨y0, y1, y2, y3, y4, y5, m, rfl, hb, hl, k0, k1, k2, k3, k4, k5⟩ := struct6a Tryd.underlying32 h
  rw [show Tryd.prog.cellsOf 32 = 7 by kernel_rfl] at hl
  match cs, hl with
  | [v0, v1, v2, v3, v4, v5, v6], _ =>
    simp only [show Tryd.prog.cellsOf 26 = 1 by kernel_rfl, show Tryd.prog.cellsOf 2 = 1 by kernel_rfl, show Tryd.prog.cellsOf 9 = 1 by kernel_rfl, show Tryd.prog.cellsOf 27 = 1 by kernel_rfl, show Tryd.prog.cellsOf 28 = 1 by kernel_rfl, show Tryd.prog.cellsOf 30 = 2 by kernel_rfl] at k0 k1 k2 k3 k4 k5
    obtain ⟨k, e0⟩ := anInt Tryd.underlying26 k0
    obtain ⟨nn, e1, w1⟩ := anIntB Tryd.underlying2 k1
    obtain ⟨s, e2, b2⟩ := aText k2
    obtain ⟨o, e3⟩ := anInt Tryd.underlying27 k3
    obtain ⟨es, A, c, e4, hx, i4, b4⟩ := sliceXB (fun j hj => ih j (by omega)) k4
    obtain ⟨l, cc, e5⟩ := aPos k5
    simp at e0 e1 e2 e3 e4 e5
    obtain ⟨rfl, rfl⟩ := e5
    subst e0 e1 e2 e3 e4
    refine ⟨.mk k nn s o es l cc, by unfold XC; exact ⟨A, c, rfl, hx⟩, by unfold inX; rw [i4, decide_eq_true (int_in w1).2]; rfl, ?_⟩
    have := bulk1 y0.1
    have := bulk1 y1.1
    have := bulk1 y3.1
    have := bulk1 y5.1
    rw [hb]
    simp only [xbk1, Rows.uptoBulk, Rows.uptoBulkAll]
    omega
theorem trodSB (n : Nat) : ∀ cs x, DataW.trod enc Tryd.prog w base sp held n 37 cs = some x → ∃ e : SV, SC w e cs ∧ inS e = true ∧ sbk1 e ≤ Rows.uptoBulk x.1 := by
  induction n using Nat.strongRecOn with
  | ind n ih =>
  intro cs x h
  obtain ⟨y0, y1, y2, y3, y4, y5, m, rfl, hb, hl, k0, k1, k2, k3, k4, k5⟩ := struct6a Tryd.underlying37 h
  rw [show Tryd.prog.cellsOf 37 = 7 by kernel_rfl] at hl
  match cs, hl with
  | [v0, v1, v2, v3, v4, v5, v6], _ =>
    simp only [show Tryd.prog.cellsOf 35 = 1 by kernel_rfl, show Tryd.prog.cellsOf 9 = 1 by kernel_rfl, show Tryd.prog.cellsOf 23 = 1 by kernel_rfl, show Tryd.prog.cellsOf 28 = 1 by kernel_rfl, show Tryd.prog.cellsOf 30 = 2 by kernel_rfl] at k0 k1 k2 k3 k4 k5
    obtain ⟨k, e0⟩ := anInt Tryd.underlying35 k0
    obtain ⟨s, e1, b1⟩ := aText k1
    obtain ⟨es, A1, c1, e2, hx, i2, b2⟩ := sliceXB (fun j _ => trodXB j) k2
    obtain ⟨ts, A2, c2, e3, ht, i3, b3⟩ := sliceSB (fun j hj => ih j (by omega)) k3
    obtain ⟨us, A3, c3, e4, hu, i4, b4⟩ := sliceSB (fun j hj => ih j (by omega)) k4
    obtain ⟨l, cc, e5⟩ := aPos k5
    simp at e0 e1 e2 e3 e4 e5
    obtain ⟨rfl, rfl⟩ := e5
    subst e0 e1 e2 e3 e4
    refine ⟨.mk k s es ts us l cc, by unfold SC; exact ⟨A1, c1, A2, c2, A3, c3, rfl, hx, ht, hu⟩, by unfold inS; rw [i2, i3, i4]; rfl, ?_⟩
    have := bulk1 y0.1
    have := bulk1 y5.1
    rw [hb]
    simp only [sbk1, Rows.uptoBulk, Rows.uptoBulkAll]
    omega
theorem trodDB (n : Nat) : ∀ cs x, DataW.trod enc Tryd.prog w base sp held n 47 cs = some x → ∃ e : DV, DCb w e cs ∧ inD e = true ∧ inR e ∧ dbk1 e ≤ Rows.uptoBulk x.1 := by
  intro cs x h
  obtain ⟨y0, y1, y2, y3, y4, y5, y6, y7, m, rfl, hb, hl, k0, k1, k2, k3, k4, k5, k6, k7⟩ := struct8a Tryd.underlying47 h
  rw [show Tryd.prog.cellsOf 47 = 9 by kernel_rfl] at hl
  match cs, hl with
  | [v0, v1, v2, v3, v4, v5, v6, v7, v8], _ =>
    simp only [show Tryd.prog.cellsOf 44 = 1 by kernel_rfl, show Tryd.prog.cellsOf 9 = 1 by kernel_rfl, show Tryd.prog.cellsOf 2 = 1 by kernel_rfl, show Tryd.prog.cellsOf 23 = 1 by kernel_rfl, show Tryd.prog.cellsOf 45 = 1 by kernel_rfl, show Tryd.prog.cellsOf 30 = 2 by kernel_rfl] at k0 k1 k2 k3 k4 k5 k6 k7
    obtain ⟨k, e0⟩ := anInt Tryd.underlying44 k0
    obtain ⟨s, e1, b1⟩ := aText k1
    obtain ⟨lo, e2, w2⟩ := anIntB Tryd.underlying2 k2
    obtain ⟨hi, e3, w3⟩ := anIntB Tryd.underlying2 k3
    obtain ⟨sz, e4, w4⟩ := anIntB Tryd.underlying2 k4
    obtain ⟨ps, A1, c1, e5, hx, hcap, b5⟩ := sliceNB k5
    obtain ⟨body, A2, c2, e6, hy, i6, b6⟩ := sliceSB (fun j _ => trodSB j) k6
    obtain ⟨l, cc, e7⟩ := aPos k7
    simp at e0 e1 e2 e3 e4 e5 e6 e7
    obtain ⟨rfl, rfl⟩ := e7
    subst e0 e1 e2 e3 e4 e5 e6
    refine ⟨⟨k, s, lo, hi, sz, ps, body, l, cc⟩, ⟨⟨A1, c1, A2, c2, rfl, hx, hy⟩, A1, c1, rfl, hcap⟩, by unfold inD; simp only []; rw [i6, decide_eq_true (int_in w4).2]; rfl, ⟨int_in w2, int_in w3⟩, ?_⟩
    have := bulk1 y0.1
    rw [hb]
    simp only [dbk1, Rows.uptoBulk, Rows.uptoBulkAll]
    omega
/-- A program that came in. -/
theorem openProgramB {r : Reach} {b0 : Nat} {v : Value} {d : DataW H} {ps : List MemPlace} (hv : Value.okWide Tryd.prog w r b0 25 v) (h : DataW.Trod enc Tryd.prog w base sp held 25 v d ps) :
    ∃ (ds : List DV) (mn : List SV) (A : Option Addr) (c : Nat) (B : Option Addr) (e : Nat), v = pval A ds.length c B mn.length e ∧ DR w A ds ∧ SR w B mn ∧ CapD w A ds.length ∧ ds.all inD = true ∧ (∀ d ∈ ds, inR d) ∧ inSs mn = true ∧ sbk mn + dbk ds ≤ Rows.uptoBulk d := by
  obtain ⟨cs, rfl, _⟩ := okWide_struct Tryd.underlying25 hv
  obtain ⟨fuel, hf⟩ := h
  have hf0 : DataW.trod enc Tryd.prog w base sp held fuel 25 cs.toList = some (d, ps) := hf
  obtain ⟨y0, y1, m, hxd, hl, k0, k1⟩ := trod_struct2 Tryd.underlying25 hf0
  injection hxd with hd hp
  subst hd
  rw [show Tryd.prog.cellsOf 25 = 2 by kernel_rfl] at hl
  clear hf hf0
  match cs, hl with
  | ⟨[v0, v1]⟩, _ =>
    simp only [show Tryd.prog.cellsOf 22 = 1 by kernel_rfl, show Tryd.prog.cellsOf 23 = 1 by kernel_rfl] at k0 k1
    obtain ⟨mn, B, e, e1, hy, iM, b1⟩ := sliceSB (fun j _ => trodSB j) k1
    simp at e1
    subst e1
    have hb : ∀ {q : Nat}, q ≤ Rows.uptoBulk y0.1 → sbk mn + q ≤ Rows.uptoBulk (DataW.agg [y0.1, y1.1]) := fun hq => by
      simp only [Rows.uptoBulk, Rows.uptoBulkAll]
      omega
    rcases DataW.trod_slice Tryd.underlying22 k0 with ⟨h0, h1⟩ | ⟨a, len, cap, ys, rest, m', rfl, h0, h1, _, _, _, hlen, hel, _⟩
    · simp at h0 h1
      subst h0
      exact ⟨[], mn, none, 0, B, e, rfl, DR.nil _ _, hy, fun _ h => (by cases h), rfl, fun d h => by simp at h, iM, hb (by simp [dbk])⟩
    · rw [show Tryd.prog.cellsOf 47 = 9 by kernel_rfl] at hel
      simp at h0
      subst hlen h0
      obtain ⟨es, hl, hs, iD, iR, hbb⟩ := rowsDB (trodDB m') ys a hel
      refine ⟨es, mn, some a, cap, B, e, by rw [← hl]; rfl, DR.of_rows (fun i e hi => let ⟨cs, h1, h2⟩ := hs i e hi; ⟨cs, h1.1, h2⟩), hy, fun ad had i hi A1 m c1 hc => ?_, iD, iR, iM, hb ?_⟩
      · injection had with had
        subst had
        obtain ⟨cs, ⟨h1, B1, c2, h2, h3⟩, h4⟩ := hs i _ (List.getElem?_eq_getElem hi)
        rw [h4 5 _ h2] at hc
        injection hc with hc
        injection hc with hc1 hc2 hc3
        omega
      rw [h1]
      simp only [Rows.uptoBulk]
      omega
/-- An expression that came in. -/
theorem openExprB {r : Reach} {b0 : Nat} {v : Value} {d : DataW H} {ps : List MemPlace} (hv : Value.okWide Tryd.prog w r b0 32 v) (h : DataW.Trod enc Tryd.prog w base sp held 32 v d ps) :
    ∃ (e : XV) (A : Option Addr) (c : Nat), v = xval e A c ∧ XR w A e.gs ∧ inX e = true ∧ xbk1 e ≤ Rows.uptoBulk d := by
  obtain ⟨cs, rfl, _⟩ := okWide_struct Tryd.underlying32 hv
  obtain ⟨fuel, hf⟩ := h
  obtain ⟨e, hc, hI, hb⟩ := trodXB fuel cs.toList (d, ps) hf
  cases e with
  | mk k n x o gs l c =>
  unfold XC at hc
  obtain ⟨A, cap, hcs, hx⟩ := hc
  exact ⟨.mk k n x o gs l c, A, cap, by rw [← Array.toArray_toList (xs := cs), hcs]; rfl, hx, hI, hb⟩
end
end
end Go.Proofs.YtejifkeeihkcjaaDoor
