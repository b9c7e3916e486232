/- The package frame as it landed answers as its contracts say. -/
import Derived.Test.YtlccbebociknaaaFrmLay
import Derived.Test.YtlccbebociknaaaFrmRead
import Derived.Test.YtlccbebociknaaaCrcPkg
namespace Go.Proofs.Ytlccbebociknaaa
open Go.ChangeShapes Go.WideShapes Go.ChangeAt Go.RowKit Go.Deep

theorem frame_ok : FrameOk where
  lay := frm_lay crc_ok
  size := size_any
  first := frm_first crc_ok
  read := frm_read crc_ok
end Go.Proofs.Ytlccbebociknaaa
