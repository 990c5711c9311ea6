/-
  The walk of PktSizes; how many causes a chunk that came in has at most.
-/
import Derived.Test.YtbliipjiilmbcaaRows
import Derived.Test.YtbliipjiilmbcaaYP1h
import Derived.Test.YtbliipjiilmbcaaYP2f
import Derived.Test.YtbliipjiilmbcaaYP2e
import Derived.Test.YtbliipjiilmbcaaYP1f
namespace Go.Proofs.Ytbliipjiilmbcaa
open Go.RowKit Go.ChangeShapes Go.WideShapes Go.Deep Go.Joins Wire Tlv Chunk Pkt

section
variable {H : Type} {enc : TypeId × Value → H} {W : World} {base : Nat} {held : Bool}
theorem bulk_pos (d : DataW H) : 1 ≤ Rows.uptoBulk d := by
  cases d with
  | lit l => cases l <;> simp [Rows.uptoBulk]
  | _ => simp [Rows.uptoBulk]
theorem bulk_mem {d : DataW H} : ∀ {l : List (DataW H)}, d ∈ l → Rows.uptoBulk d ≤ Rows.uptoBulkAll l
  | x :: l, h => by
    simp only [Rows.uptoBulkAll]
    rcases List.mem_cons.1 h with rfl | h
    · omega
    · have := bulk_mem h
      omega
theorem bulk_len : ∀ (l : List (DataW H)), l.length ≤ Rows.uptoBulkAll l
  | [] => by simp
  | x :: l => by
    have h1 := bulk_pos x
    have h2 := bulk_len l
    simp only [Rows.uptoBulkAll, List.length_cons]
    omega
/-- A chunk's causes are no more than the bulk of what is read. -/
theorem chunk_bulk {c : Ck} {s : Ls} {d : DataW H} {p : List MemPlace} (h : DataW.Trod enc Try.prog W base (fun _ => true) held 32 (.agg (cv c s)) d p) : s.cn ≤ Rows.uptoBulk d := by
  obtain ⟨fuel, hf⟩ := h
  obtain ⟨v0, v1, v2, v3, v4, v5, v6, v7, v8, v9, v10, v11, v12, v13, v14, y0, y1, y2, y3, y4, y5, y6, y7, y8, y9, y10, y11, y12, y13, y14, n, hcs, hx, _, _, _, _, _, _, _, _, _, _, _, _, _, _, t14⟩ := open_cells15 Try.underlying32 (by kernel_rfl) (by kernel_rfl) hf
  have e14 : v14 = .slice s.cA s.cn s.cc := by
    have := congrArg (·[14]?) hcs
    simpa [Value.cells, cv] using this.symm
  subst e14
  simp only at hx
  subst hx
  have hm : Rows.uptoBulk y14.1 ≤ Rows.uptoBulkAll [y0.1, y1.1, y2.1, y3.1, y4.1, y5.1, y6.1, y7.1, y8.1, y9.1, y10.1, y11.1, y12.1, y13.1, y14.1] := bulk_mem (by simp)
  have hs : s.cn ≤ Rows.uptoBulk y14.1 := by
    rcases open_slice Try.underlying30 t14 with ⟨hcs, _⟩ | ⟨x, len, cap, m, n, D, Pl, hcs, _, hl, hm, hmm, hx, hr⟩
    · simp at hcs
      omega
    · simp at hcs
      obtain ⟨_, rfl, _⟩ := hcs
      rw [hx]
      simp only [Rows.uptoBulk]
      have := bulk_len ((List.range s.cn).map D)
      simp only [List.length_map, List.length_range] at this
      omega
  simp only [Rows.uptoBulk]
  omega
end
theorem pSize_lit (c : Ck) (s : Ls) (w : World) (h : Ch w c s) :
    Calls Try.prog 30 #[.agg #[.int .u8 (c.kd : Int), .int .u8 (c.fl : Int), .int .u32 (c.tag : Int), .int .u32 (c.rw : Int), .int .u32 (c.tsn : Int), .int .u16 (c.out : Int), .int .u16 (c.inn : Int), .int .u16 (c.sid : Int), .int .u16 (c.ssn : Int), .int .u32 (c.ppid : Int),
  .slice s.dA s.dn s.dc, .slice s.aA s.an s.ac, .slice s.gA s.gn s.gc, .slice s.uA s.un s.uc, .slice s.cA s.cn s.cc]] w fun e w' => e = .returned (.int .i64 ((cput c).1.length : Nat)) ∧ Below w.heap.size w w' := pSize_any c s w h
set_option maxRecDepth 100000 in
set_option maxHeartbeats 4000000 in
theorem pktSizes_walk (c : Ck) (s : Ls) (w : World) (h : Ch w c s) (hcn : s.cn ≤ 1048576) :
    Calls Try.prog 8 #[.agg (cv c s)] w fun e w' => e = .returned (.bool true) ∧ Below w.heap.size w w' := by
  have HU : Hid (U1 w (cv c s) _) := Lib.hid (U1.new w (cv c s))
  have HC : Hid (Ch _ c s) := Lib.hid (h.alloc (.cells (cv c s) 32))
  have HCI := Lib.hid (cv_info c s)
  have HK := Lib.hid pkknown_any
  have CG := Lib.hid fun W (hW : Ch W c s) => rGreat_any c s W hW
  have CR := Lib.hid fun W (hW : Ch W c s) => rfPut_up c s W hW hcn
  have CS := Lib.hid fun W (hW : Ch W c s) => pSize_lit c s W hW
  generalize cput c = p at CR CS
  obtain ⟨L, err⟩ := p
  clear h hcn
  go_enter Try.func8, Try.ntmps8
  go_upto_region 1 with fail
  generalize World.alloc w _ = W1 at HU HC ⊢
  go_wp2_with fail
  refine (HK.out _).mono ?_
  rintro e W2 ⟨rfl, hb2⟩
  have HC2 := Lib.hid (HC.out.next hb2)
  have HU2 := Lib.hid (HU.out.next hb2)
  clear hb2 HU HC
  go_wp2_with ((refine wpList_load_row rfl 32 (.tmp 1) rfl w.heap.size rfl 32 (cv c s) (0, 0) _ HU2.out.1 Try.underlying32 rfl HCI.out ?_))
  (with_reducible refine (CR.out _ HC2.out).mono ?_)
  rintro e W3 ⟨A3, n3, c3, rfl, ho3⟩
  have HC3 := Lib.hid (HC2.out.next ho3.2)
  have HU3 := Lib.hid (HU2.out.next ho3.2)
  have HLN := Lib.hid ho3.len
  clear ho3 HU2 HC2
  go_wp2_with ((refine wpList_load_row rfl 32 (.tmp 1) rfl w.heap.size rfl 32 (cv c s) (0, 0) _ HU3.out.1 Try.underlying32 rfl HCI.out ?_))
  (with_reducible refine (CG.out _ HC3.out).mono ?_)
  rintro e W4 ⟨bg, rfl, hcn, hb4⟩
  have HC4 := Lib.hid (HC3.out.next hb4)
  have HU4 := Lib.hid (HU3.out.next hb4)
  clear hb4 HU3 HC3 hcn
  cases bg
  · have c0 := HU4.out.1.c0
    have c1 := HU4.out.1.c1
    have c2 := HU4.out.1.c2
    have c3' := HU4.out.1.c3
    have c4 := HU4.out.1.c4
    have c5 := HU4.out.1.c5
    have c6 := HU4.out.1.c6
    have c7 := HU4.out.1.c7
    have c8 := HU4.out.1.c8
    have c9 := HU4.out.1.c9
    have c10 := HU4.out.1.c10
    have c11 := HU4.out.1.c11
    have c12 := HU4.out.1.c12
    have c13 := HU4.out.1.c13
    have c14 := HU4.out.1.c14
    have hcs := CS.out W4 HC4.out
    have hln : L.length = n3 := HLN.out
    simp only [hln] at hcs
    have HCS := Lib.hid hcs
    clear hcs hln
    go_wp2_with fail
    (with_reducible refine HCS.out.mono ?_)
    rintro e W5 ⟨rfl, hb5⟩
    have HB5 := Lib.hid (bnext' HU4.out.2 hb5)
    clear hb5 c0 c1 c2 c3' c4 c5 c6 c7 c8 c9 c10 c11 c12 c13 c14
    go_wp2_with fail
    go_ret
    exact ⟨rfl, HB5.out⟩
  · go_wp2_with fail
    go_ret
    exact ⟨rfl, HU4.out.2⟩
end Go.Proofs.Ytbliipjiilmbcaa
